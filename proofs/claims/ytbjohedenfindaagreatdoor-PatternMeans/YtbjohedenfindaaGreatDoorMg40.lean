/- Texts of the proof, put together: RPokB, LCon. -/
import Derived.Test.YtbjohedenfindaaGreatDoorMg39
import Derived.Test.YtbjohedenfindaaGreatDoorMg09
import Derived.Laws.Runes
import Derived.Lib.Bytealg
import Derived.WalkKit
import Derived.WalkMore
import Derived.WalkSpells
import Derived.WalkLawsBesides
import Derived.Lib.OthersKept
namespace Go.Proofs.YtbjohedenfindaaGreatDoor
open Go.RowKit
set_option linter.unusedVariables false
set_option maxRecDepth 100000

/-- as many kids as the kind asks -/
def KidN (k n : Int) : Prop := (k = 1 ∧ n = 0) ∨ (k = 2 ∧ n ≠ 1) ∨ (k = 3 ∧ 1 < n) ∨ (k = 4 ∧ 1 < n) ∨ (k = 5 ∧ n = 1) ∨ (k = 6 ∧ n = 1)
set_option maxHeartbeats 2000000 in
theorem kidsok_yes {k n : Int} (h : KidN k n) (w : World) : Calls Tryz.prog 49 #[.int .i64 k, .int .i64 n] w fun e w' => e = .returned (.bool true) ∧ w' = w := by
  rcases h with ⟨rfl, rfl⟩ | ⟨rfl, h⟩ | ⟨rfl, h⟩ | ⟨rfl, h⟩ | ⟨rfl, rfl⟩ | ⟨rfl, rfl⟩
  · go_enter Tryz.func49, Tryz.ntmps49
    go_wp2
    go_ret
    exact ⟨rfl, rfl⟩
  · have hq : (n != 1) = true := by rw [bne_iff_ne]; exact h
    go_enter Tryz.func49, Tryz.ntmps49
    go_wp2
    go_ret
    first | exact ⟨rfl, rfl⟩ | exact ⟨by rw [hq], rfl⟩ | exact ⟨by simp [h], rfl⟩
  · go_enter Tryz.func49, Tryz.ntmps49
    go_wp2
    go_ret
    first | exact ⟨rfl, rfl⟩ | exact ⟨by simp [h], rfl⟩
  · go_enter Tryz.func49, Tryz.ntmps49
    go_wp2
    go_ret
    first | exact ⟨rfl, rfl⟩ | exact ⟨by simp [h], rfl⟩
  · go_enter Tryz.func49, Tryz.ntmps49
    go_wp2
    go_ret
    exact ⟨rfl, rfl⟩
  · go_enter Tryz.func49, Tryz.ntmps49
    go_wp2
    go_ret
    exact ⟨rfl, rfl⟩
theorem kidN_of {t : Re} (h : NodeOk t) : KidN t.kind t.kids.length := by
  unfold KidN
  rcases h with ⟨h1, h2, _⟩ | ⟨h1, h2, _⟩ | ⟨h1, h2, _⟩ | ⟨h1, h2, _⟩ | ⟨h1, h2, _⟩
  · rw [h2]; simp [h1]
  · omega
  · omega
  · omega
  · omega
theorem node_set {t : Re} (h : NodeOk t) : canonFrom 0 t.set = true ∧ (t.kind = 1 ∨ ((t.kind != 1) = true ∧ t.set = [])) := by
  rcases h with ⟨h1, _, _, _, h2, _⟩ | ⟨h1, _, _, _, _, h2⟩ | ⟨h1, _, _, _, _, h2⟩ | ⟨h1, _, _, _, h2⟩ | ⟨h1, _, _, _, _, h2⟩
  · exact ⟨h2, .inl h1⟩
  all_goals
    rw [h2]
    refine ⟨rfl, .inr ⟨?_, rfl⟩⟩
    rw [bne_iff_ne]; omega

set_option maxHeartbeats 4000000 in
theorem shaped_deep {w : World} {b : Nat} (z : Int) (h : 30 < z) : Calls Tryz.prog 25 #[.pointer (some ⟨b, 0, none⟩), .int .i64 z] w fun e w' => ∃ bb, e = .returned (.bool bb) ∧ Below w.heap.size w w' := by
  go_enter Tryz.func25, Tryz.ntmps25
  go_wp2
  go_ret
  exact ⟨_, rfl, Below.refl _ _⟩

set_option maxHeartbeats 8000000 in
theorem shaped_raw {w : World} {b kc sc : Nat} {kind mn mx : Int} {set : List Rg} {nk : Nat} {ka sa : Option Addr} {mk : List Rg → Bool → List Rg} (M : MkOk mk) (z : Int) (hz0 : 0 ≤ z) (hz : z ≤ 30) (hlt : b < w.heap.size) (hnk : nk ≤ 17592186000000) (hkn : KidN kind nk) (hcan : canonFrom 0 set = true) (hkind : kind = 1 ∨ ((kind != 1) = true ∧ set = []))
    (c0 : w.cell? ⟨b, 0, none⟩ = some (.int .i64 kind)) (c1 : w.cell? ⟨b, 1, none⟩ = some (.slice sa set.length sc)) (c2 : w.cell? ⟨b, 2, none⟩ = some (.int .i64 mn)) (c3 : w.cell? ⟨b, 3, none⟩ = some (.int .i64 mx)) (c4 : w.cell? ⟨b, 4, none⟩ = some (.slice ka nk kc)) (hset : Rngs w (.slice sa set.length sc) set)
    (HK : Hid (∀ j, j < nk → ∃ g off b1, ka = some ⟨g, off, none⟩ ∧ g < w.heap.size ∧ w.cell? ⟨g, off + j, none⟩ = some (.pointer (some ⟨b1, 0, none⟩)) ∧ ∀ w', Below w.heap.size w w' → Calls Tryz.prog 25 #[.pointer (some ⟨b1, 0, none⟩), .int .i64 (z + 1)] w' fun e w'' => ∃ bb, e = .returned (.bool bb) ∧ Below w'.heap.size w' w'')) :
    Calls Tryz.prog 25 #[.pointer (some ⟨b, 0, none⟩), .int .i64 z] w fun e w' => ∃ bb, e = .returned (.bool bb) ∧ Below w.heap.size w w' := by
  have hlen : set.length ≤ 600000 := (upto_canon (canon_upto hcan)).2
  have hself := M.self hcan
  have HKo : Hid (∀ w', Calls Tryz.prog 49 #[.int .i64 kind, .int .i64 (nk : Int)] w' fun e w'' => e = .returned (.bool true) ∧ w'' = w') := fun w' => kidsok_yes hkn w'
  have HTi : Hid (∀ w', Below w.heap.size w w' → Calls Tryz.prog 50 #[.pointer (some ⟨b, 0, none⟩)] w' fun e w'' => ∃ bb, e = .returned (.bool bb) ∧ Below w'.heap.size w' w'') := fun w' hb => timesok_any (Nat.lt_of_lt_of_le hlt hb.size) ((hb.cell (p := ⟨b, 0, none⟩) hlt).trans c0) ((hb.cell (p := ⟨b, 2, none⟩) hlt).trans c2) ((hb.cell (p := ⟨b, 3, none⟩) hlt).trans c3)
  have HCa : Hid (∀ w', Below w.heap.size w w' → Calls Tryz.prog 51 #[.slice sa set.length sc] w' fun e w'' => ∃ ua uc, e = .returned (.slice ua set.length uc) ∧ Rngs w'' (.slice ua set.length uc) set ∧ Rngs w'' (.slice sa set.length sc) set ∧ Below w'.heap.size w' w'') := fun w' hb => by
    refine (rcanon_mk M _ set w' hlen (hset.below hb)).mono ?_
    rintro e w'' ⟨u, rfl, h1, h2⟩
    rw [hself] at h1
    obtain ⟨ua, uc, rfl⟩ := rngs_slice h1.rngs
    exact ⟨ua, uc, rfl, h1.rngs, (hset.below hb).below h2, h2⟩
  have HSa : Hid (∀ (w' : World) (ua : Option Addr) (uc : Nat), Rngs w' (.slice ua set.length uc) set → Rngs w' (.slice sa set.length sc) set → Calls Tryz.prog 24 #[.slice ua set.length uc, .slice sa set.length sc] w' fun e w'' => e = .returned (.bool true) ∧ ∃ n, w'' = w'.drewN n) := fun w' ua uc h1 h2 => sameset_any _ _ set w' (by omega) h1 h2
  have hzz : IntKind.i64.wrap (z + 1) = z + 1 := wrap_id _ (by omega) (by omega)
  have hz30 : ¬ 30 < z := by omega
  have hkind2 : kind = 1 ∨ ((kind != 1) = true ∧ set.length = 0) := by
    rcases hkind with h | ⟨h, h2⟩
    · exact .inl h
    · exact .inr ⟨h, by rw [h2]; rfl⟩
  clear hself hkn hcan hset c2 c3 hkind
  generalize set.length = ns at *
  have HF : Hid (∀ w', Below w.heap.size w w' → w'.cell? ⟨b, 0, none⟩ = some (.int .i64 kind) ∧ w'.cell? ⟨b, 1, none⟩ = some (.slice sa ns sc) ∧ w'.cell? ⟨b, 4, none⟩ = some (.slice ka nk kc) ∧ b < w'.heap.size) := fun w' hb => ⟨(hb.cell (p := ⟨b, 0, none⟩) hlt).trans c0, (hb.cell (p := ⟨b, 1, none⟩) hlt).trans c1, (hb.cell (p := ⟨b, 4, none⟩) hlt).trans c4, Nat.lt_of_lt_of_le hlt hb.size⟩
  go_enter Tryz.func25, Tryz.ntmps25
  go_wp2
  go_quiet ((go_at_call 49; exact Calls.quiet_of_same (HKo.out _)))
  have hb1 : Below w.heap.size w (w.drewN nq) := ⟨rfl, rfl, rfl, Nat.le_refl _, fun _ _ => rfl⟩
  generalize w.drewN nq = w1 at *
  obtain ⟨d0, d1, d4, dl⟩ := HF.out w1 hb1
  clear c0 c1 c4
  go_wp2_with fail
  go_at_call 50
  refine (HTi.out w1 hb1).mono ?_
  rintro e w2 ⟨bb, rfl, hbx⟩
  have hb2 := hb1.trans (hbx.mono hb1.size)
  obtain ⟨e0, e1, e4, el⟩ := HF.out w2 hb2
  clear d0 d1 d4 dl hbx hb1
  go_wp2_with fail
  go_at_call 51
  refine (HCa.out w2 hb2).mono ?_
  rintro e w3 ⟨ua, uc, rfl, hR1, hR2, hbx⟩
  have HR : Hid (Rngs w3 (.slice ua ns uc) set ∧ Rngs w3 (.slice sa ns sc) set) := ⟨hR1, hR2⟩
  have hb3 := hb2.trans (hbx.mono hb2.size)
  obtain ⟨f0, f1, f4, fl⟩ := HF.out w3 hb3
  clear e0 e1 e4 el hbx hb2 hR1 hR2
  go_wp2_with fail
  go_at_call 24
  refine (HSa.out w3 ua uc HR.out.1 HR.out.2).mono ?_
  rintro e w4 ⟨rfl, n4, hw4⟩
  have hb4 : Below w.heap.size w w4 := by rw [hw4]; exact below_drewU hb3 n4
  obtain ⟨g0, g1, g4, gl⟩ := HF.out w4 hb4
  clear f0 f1 f4 fl hb3 hw4 HR
  have HL : Hid (∀ (wr : World) (j : Nat), Below w.heap.size w wr → j < nk → ∃ g off b1, ka = some ⟨g, off, none⟩ ∧ wr.cell? ⟨g, off + j, none⟩ = some (.pointer (some ⟨b1, 0, none⟩)) ∧ Calls Tryz.prog 25 #[.pointer (some ⟨b1, 0, none⟩), .int .i64 (z + 1)] wr fun e w'' => ∃ bb, e = .returned (.bool bb) ∧ Below w.heap.size w w'') := fun wr j hb hj => by
    obtain ⟨g, off, b1, h1, h2, h3, h4⟩ := HK.out j hj
    refine ⟨g, off, b1, h1, (hb.cell (p := ⟨g, off + j, none⟩) h2).trans h3, (h4 wr hb).mono ?_⟩
    rintro e w'' ⟨bb, rfl, hbx⟩
    exact ⟨bb, rfl, hb.trans (hbx.mono hb.size)⟩
  clear HK HTi HCa HSa HKo hlen
  cases bb
  · go_wp2
    go_ret
    exact ⟨_, rfl, hb4⟩
  · rcases hkind2 with rfl | ⟨hq, rfl⟩
    all_goals
      go_wp2
      go_loopw [9] (fun iv wr => ∃ i : Nat, i ≤ nk ∧ iv = .int .i64 i ∧ Below w.heap.size w wr) (fun iv _ => nk - (intOf iv).toNat)
      case atStart => exact ⟨0, Nat.zero_le _, rfl, hb4⟩
      case round =>
        clear g0 g1 g4 gl hb4
        obtain ⟨i, hi, rfl, hbw⟩ := hrel
        obtain ⟨g0, g1, g4, gl⟩ := HF.out wr hbw
        by_cases hlt2 : i < nk
        · obtain ⟨g, off, b1, rfl, hu, hC⟩ := HL.out wr i hbw hlt2
          have HC : Hid (Calls Tryz.prog 25 #[.pointer (some ⟨b1, 0, none⟩), .int .i64 (z + 1)] wr fun e w'' => ∃ bb, e = .returned (.bool bb) ∧ Below w.heap.size w w'') := hC
          clear hC
          go_wp2_with fail
          go_at_call 25
          refine HC.out.mono ?_
          rintro e w5 ⟨bb, rfl, hb5⟩
          clear g0 g1 g4 gl hu HC
          cases bb
          · go_wp2
            go_ret
            exact ⟨_, rfl, hb5⟩
          · go_wp2
            go_roundw
            case rel => exact ⟨i + 1, by omega, by go_num, hb5⟩
            case measure => simp [intOf]; omega
        · go_wp2
          go_ret
          exact ⟨_, rfl, hbw⟩

theorem good_kid {t x : Tm} (h : GoodT (reOf t)) (hx : x ∈ t.kids) : GoodT (reOf x) := fun n => by
  have h1 : some (reOf x) ∈ (reOf t).kids := by
    rw [reOf_eq]
    exact List.mem_map_of_mem (List.mem_map_of_mem hx)
  obtain ⟨k', e, h2⟩ := (h (n + 1)).2 (some (reOf x)) h1
  injection e with e
  subst e
  exact h2
def ShC (t : Tm) : Prop := ∀ (ok : Nat → Prop) (w : World) (v : Value) (z : Int), 0 ≤ z → z ≤ 31 → TT ok w v t → GoodT (reOf t) → Sml t → Calls Tryz.prog 25 #[v, .int .i64 z] w fun e w' => ∃ bb, e = .returned (.bool bb) ∧ Below w.heap.size w w'
theorem shaped_any {mk : List Rg → Bool → List Rg} (M : MkOk mk) : ∀ (t : Tm), ShC t := by
  refine Tm.ind ?_
  intro t ih ok w v z hz0 hz1 hv hG hs
  obtain ⟨b, sv, ka, kc, hN⟩ := hv.node
  have e := hN.v_eq; subst e
  by_cases hz : z ≤ 30
  · have hno : NodeOk (reOf t) := (hG 1).1
    have hk := kidN_of hno
    have hst := node_set hno
    have e1 : (reOf t).kind = t.kind := by rw [reOf_eq]
    have e2 : (reOf t).kids.length = t.kids.length := by rw [reOf_eq]; simp
    have e3 : (reOf t).set = t.set := by rw [reOf_eq]
    rw [e1, e2] at hk
    rw [e1, e3] at hst
    have c1 := hN.c1
    have hr := hN.set.rngs
    obtain ⟨sa, sc, rfl⟩ := rngs_slice hr
    refine shaped_raw M z hz0 hz hN.lt hs.num.2.2.2.2.2 hk hst.1 hst.2 hN.c0 c1 hN.c2 hN.c3 hN.c4 hr ?_
    intro j hj
    obtain ⟨g, off, u, h1, h2, _, h3, h4⟩ := hN.kid j hj
    obtain ⟨b1, rfl⟩ := h4.ptr
    exact ⟨g, off, b1, h1, h2, h3, fun w' hb => ih _ (getD_mem _ j hj) ok w' _ (z + 1) (by omega) (by omega) (h4.below hb) (good_kid hG (getD_mem _ j hj)) (hs.kid (getD_mem _ j hj))⟩
  · exact shaped_deep z (by omega)

set_option maxHeartbeats 2000000 in
theorem patok_any {mk : List Rg → Bool → List Rg} (M : MkOk mk) (t : Tm) (ok : Nat → Prop) (w : World) (v : Value) (hv : TT ok w v t) (hG : GoodT (reOf t)) (hs : Sml t) :
    Calls Tryz.prog 13 #[v] w fun e w' => ∃ b, e = .returned (.bool b) ∧ Below w.heap.size w w' := by
  have HS : Hid (Calls Tryz.prog 25 #[v, .int .i64 0] w fun e w' => ∃ bb, e = .returned (.bool bb) ∧ Below w.heap.size w w') := shaped_any M t ok w v 0 (by omega) (by omega) hv hG hs
  have HW : Hid (∀ w', Below w.heap.size w w' → Calls Tryz.prog 26 #[v] w' fun e w'' => ∃ z, e = .returned (.int .i64 z) ∧ Below w'.heap.size w' w'') := fun w' hb => (weight_any t ok w' v (hv.below hb) hs).mono fun e w'' ⟨z, h1, _, h2⟩ => ⟨z, h1, h2⟩
  obtain ⟨b, rfl⟩ := hv.ptr
  clear hv hG hs
  go_enter Tryz.func13, Tryz.ntmps13
  go_wp2_with fail
  go_at_call 25
  refine HS.out.mono ?_
  rintro e w1 ⟨bb, rfl, hb1⟩
  cases bb
  · go_wp2
    go_ret
    exact ⟨_, rfl, hb1⟩
  · go_wp2_with fail
    go_at_call 26
    refine (HW.out w1 hb1).mono ?_
    rintro e w2 ⟨z, rfl, hb2⟩
    have hb3 := hb1.trans (hb2.mono hb1.size)
    by_cases hz : z ≤ 60
    all_goals
      go_wp2
      go_ret
      exact ⟨_, rfl, hb3⟩
theorem pokc_of {mk : List Rg → Bool → List Rg} (M : MkOk mk) {s : ByteArray} (hs : s.size ≤ 1000000) : PokC s mk := by
  intro B w v t hw hT
  have hG := wholeS_good hs (fun a b _ => ⟨(M a b).2.1, Nat.le_trans (M a b).2.2 (by omega)⟩) hw
  obtain ⟨tm, rfl, hO, hS, hTw⟩ := good_tm t hG
  exact patok_any M tm _ w v hT hG hS

end Go.Proofs.YtbjohedenfindaaGreatDoor

namespace Go.Proofs.YtbjohedenfindaaGreatDoor
open Go.RowKit
set_option linter.unusedVariables false
set_option maxRecDepth 100000

theorem ascii_dec {S : ByteArray} (hS : ∀ j, j < S.size → (S.get! j).toNat < 128) {pos : Nat} (hp : pos < S.size) : Utf8.decode S pos = ((S.get! pos).toNat, 1) := by
  rw [Lib.decode_at, Lib.decodeN, if_pos (hS pos hp)]

set_option maxHeartbeats 1000000 in
theorem irune_err (S : ByteArray) (hS : ∀ j, j < S.size → (S.get! j).toNat < 128) (hsz : S.size ≤ 100) (w : World) :
    Calls Tryz.prog 130 #[.string S, .int .i32 65533] w fun e w' => e = .returned (.int .i64 (-1)) ∧ Below w.heap.size w w' := by
  go_enter Tryz.func130, Tryz.ntmps130
  go_wp2
  go_loopw [5] (fun v wr => ∃ (pos : Nat), wr.heap[w.heap.size]? = some (.stringIter S pos) ∧ Below w.heap.size w wr ∧ pos ≤ S.size ∧ w.heap.size + 1 ≤ wr.heap.size) (fun _ wr => S.size - wr.iterPos w.heap.size)
  case atStart =>
    refine ⟨0, World.iter_heap w S 0, (Below.refl _ w).alloc (Nat.le_refl _) _, by omega, by simp [World.iter]⟩
  case round =>
    obtain ⟨pos, hit, hbw, hpl, hsz'⟩ := hrel
    by_cases hp : pos < S.size
    · have hnx : ∀ ty, (Instr.next (.pointer (some ⟨w.heap.size, 0, none⟩)) true ty).run Tryz.prog wr = _ := fun ty => Lib.run_next_any_at wr w.heap.size S pos ty hit hp
      have hd := ascii_dec hS hp
      have hb := hS pos hp
      rw [hd] at hnx
      have hit2 := Lib.iterAt_heap wr w.heap.size S pos (pos + 1) hit
      have hbw2 := Lib.below_iterAt hbw (k := w.heap.size) (Nat.le_refl _) S (pos + 1)
      have hsz2 : w.heap.size + 1 ≤ (wr.iterAt w.heap.size S (pos + 1)).heap.size := by rw [Lib.iterAt_size]; exact hsz'
      have hne : ¬ (((S.get! pos).toNat : Int) = 65533) := by omega
      simp only at hnx
      generalize (S.get! pos).toNat = x at *
      clear hd hS hbw hsz'
      go_wp2
      go_roundw
      case rel => exact ⟨pos + 1, hit2, hbw2, by omega, hsz2⟩
      case measure =>
        simp only [World.iterPos, hit2, hit]
        omega
    · have hnx : ∀ ty, (Instr.next (.pointer (some ⟨w.heap.size, 0, none⟩)) true ty).run Tryz.prog wr = _ := fun ty => Lib.run_next_end_at wr w.heap.size S pos ty hit hp
      go_wp2
      go_ret
      exact ⟨rfl, hbw⟩

set_option maxHeartbeats 1000000 in
theorem irune_bad (S : ByteArray) (c : Int) (h0 : 55296 ≤ c) (h1 : c ≤ 57343) (w : World) :
    Calls Tryz.prog 130 #[.string S, .int .i32 c] w fun e w' => e = .returned (.int .i64 (-1)) ∧ Below w.heap.size w w' := by
  have g1 : ¬ c < 128 := by omega
  have g2 : ¬ c = 65533 := by omega
  go_enter Tryz.func130, Tryz.ntmps130
  go_wp2
  go_ret
  exact ⟨rfl, Below.refl _ _⟩

set_option maxHeartbeats 1000000 in
theorem slbyte_any (T : ByteArray) (x : Int) (w : World) :
    Calls Tryz.prog 160 #[.string T, .int .u8 x] w fun e w' => e = .returned (.int .i64 (Lib.indexByte T.data.toList x.toNat.toUInt8)) ∧ w' = w := by
  go_enter Tryz.func160, Tryz.ntmps160
  go_wp2
  rw [run_callFunc_extern Tryz.func174 (by kernel_rfl) (by kernel_rfl) (by kernel_rfl) (e := Extern.BytealgIndexByte.indexByte) (by kernel_rfl), Lib.run_indexByteString]
  simp only [Result.andThen]
  rw [Oper.upon_value]
  go_wp2
  go_ret
  exact ⟨rfl, rfl⟩

set_option maxHeartbeats 1000000 in
theorem ibyte_any (T : ByteArray) (x : Int) (w : World) :
    Calls Tryz.prog 143 #[.string T, .int .u8 x] w fun e w' => e = .returned (.int .i64 (Lib.indexByte T.data.toList x.toNat.toUInt8)) ∧ w' = w := by
  go_enter Tryz.func143, Tryz.ntmps143
  go_wp2_with fail
  refine (slbyte_any T x w).mono ?_
  rintro e w' ⟨rfl, rfl⟩
  go_wp2
  go_ret
  exact ⟨rfl, rfl⟩

theorem ibyte_none {S : ByteArray} {a e : Nat} {x : Int} (hS : ∀ b ∈ S.data.toList, b.toNat < 128) (h0 : 128 ≤ x) (h1 : x < 256) : Lib.indexByte (S.extract a e).data.toList x.toNat.toUInt8 = -1 := by
  rw [← Lib.firstIdx_eq]
  refine firstIdx_ascii S a e _ hS ?_
  simp
  omega

set_option maxHeartbeats 1000000 in
theorem vrune_any (c : Int) (h : (0 ≤ c ∧ c < 55296) ∨ (57343 < c ∧ c ≤ 1114111)) (w : World) :
    Calls Tryz.prog 144 #[.int .i32 c] w fun e w' => e = .returned (.bool true) ∧ w' = w := by
  rcases h with ⟨k0, k1⟩ | ⟨k0, k1⟩
  · go_enter Tryz.func144, Tryz.ntmps144
    go_wp2
    go_ret
    exact ⟨rfl, rfl⟩
  · have k2 : ¬ c < 55296 := by omega
    go_enter Tryz.func144, Tryz.ntmps144
    go_wp2
    go_ret
    exact ⟨rfl, rfl⟩

set_option maxHeartbeats 2000000 in
theorem irune_far (S E : ByteArray) (k : Nat) (c : Int) (h0 : 128 ≤ c) (g3 : (0 ≤ c ∧ c < 55296) ∨ (57343 < c ∧ c ≤ 1114111)) (hc : c ≠ 65533) (hE : Utf8.encode c = E) (hk : E.size = k + 1) (hs1 : k < S.size) (hs2 : k < E.size) (hl : 128 ≤ (E[k]'hs2).toNat) (hlo : (S[k]'hs1).toNat < 128) (hS : ∀ b ∈ S.data.toList, b.toNat < 128) (hsz : S.size ≤ 100) (w : World) :
    Calls Tryz.prog 130 #[.string S, .int .i32 c] w fun e w' => e = .returned (.int .i64 (-1)) ∧ Below w.heap.size w w' := by
  have g1 : ¬ c < 128 := by omega
  have g2 : ¬ c = 65533 := by omega
  have hcv : (convert 21 9 (.int .i32 c)).run Tryz.prog w = .ok (.string E) w := by
    rw [← hE]; exact run_convert_int_string w 21 9 .i32 c (by rw [Tryz.underlying21]; rfl) Tryz.underlying9
  have hkE : (E.size : Int) - 1 = (k : Int) := by omega
  have hi0 : (k : Int) < (S.size : Int) := by omega
  have hwr : IntKind.i64.wrap ((k : Int) + 1) = (k : Int) + 1 := wrap_small _ (by omega) (by omega)
  have hto : ((k : Int) + 1).toNat = k + 1 := by omega
  have hle : (k : Int) + 1 ≤ (S.size : Int) := by omega
  have hge : (0 : Int) ≤ (k : Int) + 1 := by omega
  have HV : Hid (Calls Tryz.prog 144 #[.int .i32 c] w fun e w' => e = .returned (.bool true) ∧ w' = w) := vrune_any c g3 w
  have HI : Hid (∀ w', Calls Tryz.prog 143 #[.string (S.extract (k + 1) S.size), .int .u8 ((E[k]'hs2).toNat : Int)] w' fun e w'' => e = .returned (.int .i64 (-1)) ∧ w'' = w') := by
    intro w'
    refine (ibyte_any _ _ w').mono ?_
    rintro e w'' ⟨rfl, rfl⟩
    have hb := (E[k]'hs2).toNat_lt
    rw [ibyte_none (S := S) (a := k + 1) (e := S.size) hS (x := ((E[k]'hs2).toNat : Int)) (by omega) (by omega)]
    exact ⟨rfl, rfl⟩
  have hne : (((S[k]'hs1).toNat : Int) != ((E[k]'hs2).toNat : Int)) = true := by rw [bne_iff_ne]; omega
  clear g3 hS hE hk
  go_enter Tryz.func130, Tryz.ntmps130
  go_wp2_with fail
  go_at_call 144
  refine HV.out.mono ?_
  rintro e w' ⟨rfl, rfl⟩
  go_wp2
  go_step3
  go_wp2
  go_loopw [9] (fun v wr => v = .int .i64 (k : Int) ∧ wr = w') (fun _ _ => 1)
  case atStart => exact ⟨rfl, rfl⟩
  case round =>
    obtain ⟨rfl, rfl⟩ := hrel
    go_wp2
    go_step3
    go_wp2
    go_quiet (fail)
    go_wp2
    have HB : Hid (Below wr.heap.size wr (wr.drewN nq)) := ⟨rfl, rfl, rfl, Nat.le_refl _, fun _ _ => rfl⟩
    generalize wr.drewN nq = wq at *
    go_quiet ((go_at_call 143; exact Calls.quiet_of_same (HI.out _)))
    go_wp2
    rw [Exit.noGoto_ret]
    change bodyPost Tryz.prog Tryz.f130 (fun e w' => e = .returned (.int .i64 (-1)) ∧ Below wr.heap.size wr w') Exit.ret _ _
    go_ret
    exact ⟨rfl, HB.out.os, HB.out.tape, HB.out.output, HB.out.size, HB.out.block⟩

theorem encode_last (c : Int) (h0 : 128 ≤ c) (g3 : (0 ≤ c ∧ c < 55296) ∨ (57343 < c ∧ c ≤ 1114111)) : ∃ k, ∃ h : (Utf8.encode c).size = k + 1, k ≤ 3 ∧ 128 ≤ ((Utf8.encode c)[k]'(by omega)).toNat := by
  have hv : Utf8.valid c = true := by rw [validRune_eq]; simp [validRune]; exact g3
  obtain ⟨h1, h2, h3⟩ := encode_facts c hv h0
  exact ⟨(Utf8.encode c).size - 1, by omega, by omega, h3 (by omega)⟩

theorem irune_any (S : ByteArray) (hS : ∀ b ∈ S.data.toList, b.toNat < 128) (h5 : 5 ≤ S.size) (hsz : S.size ≤ 100) (c : Int) (h0 : 128 ≤ c) (h1 : c ≤ 1114111) (w : World) :
    Calls Tryz.prog 130 #[.string S, .int .i32 c] w fun e w' => e = .returned (.int .i64 (-1)) ∧ Below w.heap.size w w' := by
  have hS2 : ∀ j, (h : j < S.size) → (S[j]'h).toNat < 128 := fun j hj => hS _ (Array.getElem_mem_toList (xs := S.data) hj)
  by_cases he : c = 65533
  · subst he
    refine irune_err S (fun j hj => ?_) hsz w
    have : S.get! j = S[j]'hj := by
      show S.data[j]! = _
      exact getElem!_pos S.data j hj
    rw [this]; exact hS2 j hj
  · by_cases hb : 55296 ≤ c ∧ c ≤ 57343
    · exact irune_bad S c hb.1 hb.2 w
    · have g3 : (0 ≤ c ∧ c < 55296) ∨ (57343 < c ∧ c ≤ 1114111) := by omega
      obtain ⟨k, hk, hk3, hl⟩ := encode_last c h0 g3
      exact irune_far S _ k c h0 g3 he rfl hk (by omega) (by omega) hl (hS2 k (by omega)) hS hsz w

set_option maxHeartbeats 1000000 in
theorem crune_far (S : ByteArray) (hS : ∀ b ∈ S.data.toList, b.toNat < 128) (h5 : 5 ≤ S.size) (hsz : S.size ≤ 100) (c : Int) (h0 : 128 ≤ c) (h1 : c ≤ 1114111) (w : World) :
    Calls Tryz.prog 115 #[.string S, .int .i32 c] w fun e w' => e = .returned (.bool false) ∧ Below w.heap.size w w' := by
  have HI : Hid (Calls Tryz.prog 130 #[.string S, .int .i32 c] w fun e w' => e = .returned (.int .i64 (-1)) ∧ Below w.heap.size w w') := irune_any S hS h5 hsz c h0 h1 w
  clear hS
  go_enter Tryz.func115, Tryz.ntmps115
  go_wp2_with fail
  go_at_call 130
  refine HI.out.mono ?_
  rintro e w' ⟨rfl, hb⟩
  go_wp2
  go_ret
  exact ⟨rfl, hb⟩

set_option maxHeartbeats 1000000 in
theorem irune_asc (S : ByteArray) (c : Int) (h0 : 0 ≤ c) (h1 : c < 128) (w : World) :
    Calls Tryz.prog 130 #[.string S, .int .i32 c] w fun e w' => e = .returned (.int .i64 (Lib.indexByte S.data.toList c.toNat.toUInt8)) ∧ w' = w := by
  have HI : Hid (Calls Tryz.prog 143 #[.string S, .int .u8 c] w fun e w' => e = .returned (.int .i64 (Lib.indexByte S.data.toList c.toNat.toUInt8)) ∧ w' = w) := ibyte_any S c w
  generalize Lib.indexByte S.data.toList c.toNat.toUInt8 = y at *
  go_enter Tryz.func130, Tryz.ntmps130
  go_wp2_with fail
  go_at_call 143
  refine HI.out.mono ?_
  rintro e w' ⟨rfl, rfl⟩
  go_wp2
  go_ret
  exact ⟨rfl, rfl⟩

set_option maxHeartbeats 1000000 in
theorem crune_asc (S : ByteArray) (c : Int) (h0 : 0 ≤ c) (h1 : c < 128) (w : World) :
    Calls Tryz.prog 115 #[.string S, .int .i32 c] w fun e w' => e = .returned (.bool (decide (0 ≤ Lib.indexByte S.data.toList c.toNat.toUInt8))) ∧ w' = w := by
  have HI : Hid (Calls Tryz.prog 130 #[.string S, .int .i32 c] w fun e w' => e = .returned (.int .i64 (Lib.indexByte S.data.toList c.toNat.toUInt8)) ∧ w' = w) := irune_asc S c h0 h1 w
  generalize Lib.indexByte S.data.toList c.toNat.toUInt8 = y at *
  go_enter Tryz.func115, Tryz.ntmps115
  go_wp2_with fail
  go_at_call 130
  refine HI.out.mono ?_
  rintro e w' ⟨rfl, rfl⟩
  by_cases hy : 0 ≤ y
  all_goals
    go_wp2
    go_ret
    simp [hy]

theorem signs_outer : ∀ n : Nat, n < 128 → outerS (n : Int) = decide (0 ≤ Lib.indexByte outerB.data.toList n.toUInt8) := by decide +kernel
theorem signs_inner : ∀ n : Nat, n < 128 → innerS (n : Int) = decide (0 ≤ Lib.indexByte innerB.data.toList n.toUInt8) := by decide +kernel
theorem outer_far (c : Int) (h : 128 ≤ c) : outerS c = false := by simp [outerS]; omega
theorem inner_far (c : Int) (h : 128 ≤ c) : innerS c = false := by simp [innerS]; omega
theorem con_any (S : ByteArray) (sg : Int → Bool) (hs : SignsOf S sg) (c : Int) (h0 : 0 ≤ c) (h1 : c ≤ 1114111) (w : World) :
    Calls Tryz.prog 115 #[.string S, .int .i32 c] w fun e w' => e = .returned (.bool (sg c)) ∧ Below w.heap.size w w' := by
  by_cases hc : c < 128
  · refine (crune_asc S c h0 hc w).mono ?_
    rintro e w' ⟨rfl, rfl⟩
    refine ⟨?_, Below.refl _ _⟩
    rcases hs with ⟨rfl, rfl⟩ | ⟨rfl, rfl⟩
    · have := signs_outer c.toNat (by omega)
      rw [Int.toNat_of_nonneg h0] at this
      rw [this]
    · have := signs_inner c.toNat (by omega)
      rw [Int.toNat_of_nonneg h0] at this
      rw [this]
  · rcases hs with ⟨rfl, rfl⟩ | ⟨rfl, rfl⟩
    · refine (crune_far outerB (by decide) (by decide) (by decide) c (by omega) h1 w).mono ?_
      rintro e w' ⟨rfl, hb⟩
      rw [outer_far c (by omega)]
      exact ⟨rfl, hb⟩
    · refine (crune_far innerB (by decide) (by decide) (by decide) c (by omega) h1 w).mono ?_
      rintro e w' ⟨rfl, hb⟩
      rw [inner_far c (by omega)]
      exact ⟨rfl, hb⟩
end Go.Proofs.YtbjohedenfindaaGreatDoor
