/- Texts of the proof, put together: WrG, LCon, WTim. -/
import Derived.Test.YtbjohedenfindaaGreatDoorPw37
import Derived.Test.YtbjohedenfindaaGreatDoorPw26
import Derived.Test.YtbjohedenfindaaGreatDoorPw10
import Derived.Laws.Runes
import Derived.Lib.Bytealg
import Derived.WalkKit
import Derived.WalkMore
import Derived.WalkSpells
import Derived.WalkLawsBesides
import Derived.Lib.OthersKept
import Derived.Test.YtbjohedenfindaaGreatDoorPw36
namespace Go.Proofs.YtbjohedenfindaaGreatDoor
set_option linter.unusedVariables false

variable {mk : List Rg → Bool → List Rg}

theorem weigh_parts {n : Nat} {t : Tm} (h : weighS (n + 1) (reOf t) ≤ 60) : 1 + (t.kids.map fun x => weighS n (reOf x)).sum ≤ weighS (n + 1) (reOf t) ∧ ∀ x ∈ t.kids, weighS n (reOf x) ≤ 60 := by
  have hkids : (reOf t).kids = (t.kids.map reOf).map some := by rw [reOf_eq]
  have hsum : ((reOf t).kids.map (kidW n)) = t.kids.map fun x => weighS n (reOf x) := by
    rw [hkids, List.map_map, List.map_map]; rfl
  have hW : weighS (n + 1) (reOf t) = if (60 : Int) < ((reOf t).kids.map (kidW n)).sum then 61 else min (1 + (if (reOf t).kind = 6 then ((reOf t).kids.map (kidW n)).sum * max (max (reOf t).mn (reOf t).mx) 1 else ((reOf t).kids.map (kidW n)).sum)) 61 := rfl
  rw [hW, hsum] at h ⊢
  have hpos : ∀ (l : List Tm), 0 ≤ (l.map fun x => weighS n (reOf x)).sum ∧ ∀ x ∈ l, weighS n (reOf x) ≤ (l.map fun x => weighS n (reOf x)).sum := by
    intro l
    induction l with
    | nil => simp
    | cons y r ih =>
      have h1 := (weighS_bd n (reOf y)).1
      simp only [List.map_cons, List.sum_cons]
      refine ⟨by omega, fun x hx => ?_⟩
      rcases List.mem_cons.1 hx with rfl | hx
      · omega
      · have := ih.2 x hx; omega
  obtain ⟨h0, h1⟩ := hpos t.kids
  generalize (t.kids.map fun x => weighS n (reOf x)).sum = S at *
  split at h
  · omega
  · rename_i hS
    rw [if_neg hS]
    refine ⟨?_, fun x hx => by have := h1 x hx; omega⟩
    split at h
    · rename_i h6
      rw [if_pos h6]
      have hm : 1 ≤ max (max (reOf t).mn (reOf t).mx) 1 := by omega
      have : S * 1 ≤ S * max (max (reOf t).mn (reOf t).mx) 1 := Int.mul_le_mul_of_nonneg_left hm h0
      omega
    · rename_i h6
      rw [if_neg h6]
      omega
theorem weigh_deep : ∀ (n : Nat) (t : Tm), weighS n (reOf t) ≤ 60 → hT t ≤ n
  | 0, t, h => by simp [weighS] at h
  | n + 1, t, h => by
    have h1 := (weigh_parts h).2
    rw [hT_eq]
    have : ∀ (l : List Nat) (a : Nat), a ≤ n → (∀ x ∈ l, x ≤ n) → l.foldl max a ≤ n := by
      intro l
      induction l with
      | nil => intro a ha _; simpa using ha
      | cons y r ih =>
        intro a ha hl
        simp only [List.foldl_cons]
        exact ih _ (by have := hl y (by simp); omega) fun x hx => hl x (by simp [hx])
    have := this (t.kids.map hT) 0 (by omega) fun x hx => by
      obtain ⟨y, hy, rfl⟩ := List.mem_map.1 hx
      exact weigh_deep n y (h1 y hy)
    omega

theorem sum_bound {n : Nat} {c : Int} (f : Tm → List Nat) : ∀ (ks : List Tm), (∀ x ∈ ks, ((f x).length : Int) + 1 ≤ sN mk n (reOf x) + 12 * weighS n (reOf x)) → ((ks.map f).flatten.length : Int) + ks.length ≤ (((ks.map fun x => sN mk n (reOf x)).sum : Nat) : Int) + 12 * (ks.map fun x => weighS n (reOf x)).sum
  | [], _ => by simp
  | y :: r, h => by
    have h1 := h y (by simp)
    have h2 := sum_bound (c := c) f r fun x hx => h x (by simp [hx])
    simp only [List.map_cons, List.flatten_cons, List.length_append, List.length_cons, List.sum_cons]
    omega
theorem join_len (c : Nat) (l : List (List Nat)) : (joinB c l).length ≤ l.flatten.length + l.length := by
  cases l with
  | nil => simp [joinB]
  | cons x t =>
    have : ∀ t : List (List Nat), (t.map (fun y => c :: y)).flatten.length = t.flatten.length + t.length := by
      intro t
      induction t with
      | nil => simp
      | cons y r ih => simp only [List.map_cons, List.flatten_cons, List.length_append, List.length_cons, ih]; omega
    simp only [joinB, List.length_append, this, List.flatten_cons, List.length_cons]
    omega
theorem wr_len : ∀ (n : Nat) (t : Tm), GoodT (reOf t) → weighS n (reOf t) ≤ 60 → ∀ place, ((wrT mk t place).length : Int) + 1 ≤ sN mk n (reOf t) + 12 * weighS n (reOf t)
  | 0, t, _, h, _ => by simp [weighS] at h
  | n + 1, t, hG, h, place => by
    obtain ⟨hw, hk60⟩ := weigh_parts h
    have hno : NodeOk (reOf t) := (hG 1).1
    have er : reOf t = ⟨t.kind, t.set, t.mn, t.mx, (t.kids.map reOf).map some⟩ := reOf_eq t
    have hs : sN mk (n + 1) (reOf t) = (if t.kind = 1 then (setB mk t.set).length else 0) + (t.kids.map fun x => sN mk n (reOf x)).sum := by
      rw [er]; simp only [sN, List.map_map, Function.comp_def]
    have hkid : ∀ pl, ∀ x ∈ t.kids, ((wrT mk x pl).length : Int) + 1 ≤ sN mk n (reOf x) + 12 * weighS n (reOf x) := fun pl x hx => wr_len n x (good_kid hG hx) (hk60 x hx) pl
    have hsum : ∀ pl, ((t.kids.map fun x => wrT mk x pl).flatten.length : Int) + t.kids.length ≤ (((t.kids.map fun x => sN mk n (reOf x)).sum : Nat) : Int) + 12 * (t.kids.map fun x => weighS n (reOf x)).sum := fun pl => sum_bound (c := 0) (fun x => wrT mk x pl) t.kids (hkid pl)
    have hbody : ((bodyB mk t.kind t.set t.mn t.mx (t.kids.map (wrT mk))).length : Int) + 3 ≤ sN mk (n + 1) (reOf t) + 12 * weighS (n + 1) (reOf t) := by
      rw [hs]
      unfold bodyB
      rw [maps_at, maps_at, maps_at, maps_at]
      split
      · rename_i h1
        have : t.kids = [] := by
          rw [er] at hno
          rcases hno with ⟨_, h2, _⟩ | ⟨h2, _⟩ | ⟨h2, _⟩ | ⟨h2, _⟩ | ⟨h2, _⟩ <;> simp only at h2
          · simpa using h2
          all_goals omega
        rw [this] at hw ⊢
        simp at hw ⊢
        omega
      · rename_i h1
        rw [Nat.zero_add]
        have h3 := hsum 3
        have h1' := hsum 1
        have h2' := hsum 2
        have h4 := hsum 4
        have j1 := join_len 124 (t.kids.map fun x => wrT mk x 1)
        have j2 := join_len 38 (t.kids.map fun x => wrT mk x 2)
        have tl := times_len t.mn t.mx
        rw [List.length_map] at j1 j2
        split
        · split
          · simp; omega
          · omega
        · split
          · omega
          · split
            · omega
            · split
              · simp only [List.length_cons]; omega
              · simp only [List.length_append]; omega
    rw [wrT_eq]
    unfold wrapB
    split
    · simp only [List.length_cons, List.length_append, List.length_nil]; omega
    · omega

/-- the bytes of a text -/
def bytesB (l : List Nat) : ByteArray := ⟨(l.map Nat.toUInt8).toArray⟩
theorem bytesB_size (l : List Nat) : (bytesB l).size = l.length := by
  show (l.map Nat.toUInt8).toArray.size = _
  simp
theorem bytesB_at {l : List Nat} (hl : ∀ b ∈ l, b < 256) : At (bytesB l) 0 l := by
  intro k hk
  refine ⟨by rw [bytesB_size]; omega, ?_⟩
  rw [get_bang]
  have : (bytesB l).data[0 + k]? = some (l[k].toUInt8) := by
    show (l.map Nat.toUInt8).toArray[0 + k]? = _
    simp [hk]
  rw [this]
  have := hl _ (List.getElem_mem hk)
  simp
  omega
/-- what is written is read again -/
theorem written_read (M : MkOk mk) {t : Tm} (hG : GoodT (reOf t)) (hw : weighS 31 (reOf t) ≤ 60) (hl : ∀ b ∈ wrT mk t 0, b < 256) : readS (bytesB (wrT mk t 0)) mk = some (reOf t) := by
  have hd := weigh_deep 31 t hw
  have hR := rd_all M t hG
  have hA := bytesB_at hl
  have hend : cpAt (bytesB (wrT mk t 0)) (0 + (wrT mk t 0).length) = -1 := by
    unfold cpAt; rw [if_neg (by rw [bytesB_size]; omega)]
  have hp := hR.a (bytesB (wrT mk t 0)) 0 100 (by omega) hA (by omega) (by rw [hend]; decide) (by rw [hend]; decide) (by rw [hend]; decide)
  have hwh : wholeS (bytesB (wrT mk t 0)) mk = some (reOf t) := by
    unfold wholeS
    rw [hp]
    simp only
    rw [if_pos hend]
  unfold readS
  rw [hwh]
  simp only
  rw [if_pos hw]

end Go.Proofs.YtbjohedenfindaaGreatDoor

namespace Go.Proofs.YtbjohedenfindaaGreatDoor
open Go.RowKit
set_option linter.unusedVariables false
set_option maxRecDepth 100000

theorem ascii_dec {S : ByteArray} (hS : ∀ j, j < S.size → (S.get! j).toNat < 128) {pos : Nat} (hp : pos < S.size) : Utf8.decode S pos = ((S.get! pos).toNat, 1) := by
  rw [Lib.decode_at, Lib.decodeN, if_pos (hS pos hp)]

set_option maxHeartbeats 1000000 in
theorem irune_err (S : ByteArray) (hS : ∀ j, j < S.size → (S.get! j).toNat < 128) (hsz : S.size ≤ 100) (w : World) :
    Calls Tryz.prog 130 #[.string S, .int .i32 65533] w fun e w' => e = .returned (.int .i64 (-1)) ∧ Below w.heap.size w w' := by
  go_enter Tryz.func130, Tryz.ntmps130
  go_wp2
  go_loopw [5] (fun v wr => ∃ (pos : Nat), wr.heap[w.heap.size]? = some (.stringIter S pos) ∧ Below w.heap.size w wr ∧ pos ≤ S.size ∧ w.heap.size + 1 ≤ wr.heap.size) (fun _ wr => S.size - wr.iterPos w.heap.size)
  case atStart =>
    refine ⟨0, World.iter_heap w S 0, (Below.refl _ w).alloc (Nat.le_refl _) _, by omega, by simp [World.iter]⟩
  case round =>
    obtain ⟨pos, hit, hbw, hpl, hsz'⟩ := hrel
    by_cases hp : pos < S.size
    · have hnx : ∀ ty, (Instr.next (.pointer (some ⟨w.heap.size, 0, none⟩)) true ty).run Tryz.prog wr = _ := fun ty => Lib.run_next_any_at wr w.heap.size S pos ty hit hp
      have hd := ascii_dec hS hp
      have hb := hS pos hp
      rw [hd] at hnx
      have hit2 := Lib.iterAt_heap wr w.heap.size S pos (pos + 1) hit
      have hbw2 := Lib.below_iterAt hbw (k := w.heap.size) (Nat.le_refl _) S (pos + 1)
      have hsz2 : w.heap.size + 1 ≤ (wr.iterAt w.heap.size S (pos + 1)).heap.size := by rw [Lib.iterAt_size]; exact hsz'
      have hne : ¬ (((S.get! pos).toNat : Int) = 65533) := by omega
      simp only at hnx
      generalize (S.get! pos).toNat = x at *
      clear hd hS hbw hsz'
      go_wp2
      go_roundw
      case rel => exact ⟨pos + 1, hit2, hbw2, by omega, hsz2⟩
      case measure =>
        simp only [World.iterPos, hit2, hit]
        omega
    · have hnx : ∀ ty, (Instr.next (.pointer (some ⟨w.heap.size, 0, none⟩)) true ty).run Tryz.prog wr = _ := fun ty => Lib.run_next_end_at wr w.heap.size S pos ty hit hp
      go_wp2
      go_ret
      exact ⟨rfl, hbw⟩

set_option maxHeartbeats 1000000 in
theorem irune_bad (S : ByteArray) (c : Int) (h0 : 55296 ≤ c) (h1 : c ≤ 57343) (w : World) :
    Calls Tryz.prog 130 #[.string S, .int .i32 c] w fun e w' => e = .returned (.int .i64 (-1)) ∧ Below w.heap.size w w' := by
  have g1 : ¬ c < 128 := by omega
  have g2 : ¬ c = 65533 := by omega
  go_enter Tryz.func130, Tryz.ntmps130
  go_wp2
  go_ret
  exact ⟨rfl, Below.refl _ _⟩

set_option maxHeartbeats 1000000 in
theorem slbyte_any (T : ByteArray) (x : Int) (w : World) :
    Calls Tryz.prog 160 #[.string T, .int .u8 x] w fun e w' => e = .returned (.int .i64 (Lib.indexByte T.data.toList x.toNat.toUInt8)) ∧ w' = w := by
  go_enter Tryz.func160, Tryz.ntmps160
  go_wp2
  rw [run_callFunc_extern Tryz.func174 (by kernel_rfl) (by kernel_rfl) (by kernel_rfl) (e := Extern.BytealgIndexByte.indexByte) (by kernel_rfl), Lib.run_indexByteString]
  simp only [Result.andThen]
  rw [Oper.upon_value]
  go_wp2
  go_ret
  exact ⟨rfl, rfl⟩

set_option maxHeartbeats 1000000 in
theorem ibyte_any (T : ByteArray) (x : Int) (w : World) :
    Calls Tryz.prog 143 #[.string T, .int .u8 x] w fun e w' => e = .returned (.int .i64 (Lib.indexByte T.data.toList x.toNat.toUInt8)) ∧ w' = w := by
  go_enter Tryz.func143, Tryz.ntmps143
  go_wp2_with fail
  refine (slbyte_any T x w).mono ?_
  rintro e w' ⟨rfl, rfl⟩
  go_wp2
  go_ret
  exact ⟨rfl, rfl⟩

theorem ibyte_none {S : ByteArray} {a e : Nat} {x : Int} (hS : ∀ b ∈ S.data.toList, b.toNat < 128) (h0 : 128 ≤ x) (h1 : x < 256) : Lib.indexByte (S.extract a e).data.toList x.toNat.toUInt8 = -1 := by
  rw [← Lib.firstIdx_eq]
  refine firstIdx_ascii S a e _ hS ?_
  simp
  omega

set_option maxHeartbeats 1000000 in
theorem vrune_any (c : Int) (h : (0 ≤ c ∧ c < 55296) ∨ (57343 < c ∧ c ≤ 1114111)) (w : World) :
    Calls Tryz.prog 144 #[.int .i32 c] w fun e w' => e = .returned (.bool true) ∧ w' = w := by
  rcases h with ⟨k0, k1⟩ | ⟨k0, k1⟩
  · go_enter Tryz.func144, Tryz.ntmps144
    go_wp2
    go_ret
    exact ⟨rfl, rfl⟩
  · have k2 : ¬ c < 55296 := by omega
    go_enter Tryz.func144, Tryz.ntmps144
    go_wp2
    go_ret
    exact ⟨rfl, rfl⟩

set_option maxHeartbeats 2000000 in
theorem irune_far (S E : ByteArray) (k : Nat) (c : Int) (h0 : 128 ≤ c) (g3 : (0 ≤ c ∧ c < 55296) ∨ (57343 < c ∧ c ≤ 1114111)) (hc : c ≠ 65533) (hE : Utf8.encode c = E) (hk : E.size = k + 1) (hs1 : k < S.size) (hs2 : k < E.size) (hl : 128 ≤ (E[k]'hs2).toNat) (hlo : (S[k]'hs1).toNat < 128) (hS : ∀ b ∈ S.data.toList, b.toNat < 128) (hsz : S.size ≤ 100) (w : World) :
    Calls Tryz.prog 130 #[.string S, .int .i32 c] w fun e w' => e = .returned (.int .i64 (-1)) ∧ Below w.heap.size w w' := by
  have g1 : ¬ c < 128 := by omega
  have g2 : ¬ c = 65533 := by omega
  have hcv : (convert 21 9 (.int .i32 c)).run Tryz.prog w = .ok (.string E) w := by
    rw [← hE]; exact run_convert_int_string w 21 9 .i32 c (by rw [Tryz.underlying21]; rfl) Tryz.underlying9
  have hkE : (E.size : Int) - 1 = (k : Int) := by omega
  have hi0 : (k : Int) < (S.size : Int) := by omega
  have hwr : IntKind.i64.wrap ((k : Int) + 1) = (k : Int) + 1 := wrap_small _ (by omega) (by omega)
  have hto : ((k : Int) + 1).toNat = k + 1 := by omega
  have hle : (k : Int) + 1 ≤ (S.size : Int) := by omega
  have hge : (0 : Int) ≤ (k : Int) + 1 := by omega
  have HV : Hid (Calls Tryz.prog 144 #[.int .i32 c] w fun e w' => e = .returned (.bool true) ∧ w' = w) := vrune_any c g3 w
  have HI : Hid (∀ w', Calls Tryz.prog 143 #[.string (S.extract (k + 1) S.size), .int .u8 ((E[k]'hs2).toNat : Int)] w' fun e w'' => e = .returned (.int .i64 (-1)) ∧ w'' = w') := by
    intro w'
    refine (ibyte_any _ _ w').mono ?_
    rintro e w'' ⟨rfl, rfl⟩
    have hb := (E[k]'hs2).toNat_lt
    rw [ibyte_none (S := S) (a := k + 1) (e := S.size) hS (x := ((E[k]'hs2).toNat : Int)) (by omega) (by omega)]
    exact ⟨rfl, rfl⟩
  have hne : (((S[k]'hs1).toNat : Int) != ((E[k]'hs2).toNat : Int)) = true := by rw [bne_iff_ne]; omega
  clear g3 hS hE hk
  go_enter Tryz.func130, Tryz.ntmps130
  go_wp2_with fail
  go_at_call 144
  refine HV.out.mono ?_
  rintro e w' ⟨rfl, rfl⟩
  go_wp2
  go_step3
  go_wp2
  go_loopw [9] (fun v wr => v = .int .i64 (k : Int) ∧ wr = w') (fun _ _ => 1)
  case atStart => exact ⟨rfl, rfl⟩
  case round =>
    obtain ⟨rfl, rfl⟩ := hrel
    go_wp2
    go_step3
    go_wp2
    go_quiet (fail)
    go_wp2
    have HB : Hid (Below wr.heap.size wr (wr.drewN nq)) := ⟨rfl, rfl, rfl, Nat.le_refl _, fun _ _ => rfl⟩
    generalize wr.drewN nq = wq at *
    go_quiet ((go_at_call 143; exact Calls.quiet_of_same (HI.out _)))
    go_wp2
    rw [Exit.noGoto_ret]
    change bodyPost Tryz.prog Tryz.f130 (fun e w' => e = .returned (.int .i64 (-1)) ∧ Below wr.heap.size wr w') Exit.ret _ _
    go_ret
    exact ⟨rfl, HB.out.os, HB.out.tape, HB.out.output, HB.out.size, HB.out.block⟩

theorem encode_last (c : Int) (h0 : 128 ≤ c) (g3 : (0 ≤ c ∧ c < 55296) ∨ (57343 < c ∧ c ≤ 1114111)) : ∃ k, ∃ h : (Utf8.encode c).size = k + 1, k ≤ 3 ∧ 128 ≤ ((Utf8.encode c)[k]'(by omega)).toNat := by
  have hv : Utf8.valid c = true := by rw [validRune_eq]; simp [validRune]; exact g3
  obtain ⟨h1, h2, h3⟩ := encode_facts c hv h0
  exact ⟨(Utf8.encode c).size - 1, by omega, by omega, h3 (by omega)⟩

theorem irune_any (S : ByteArray) (hS : ∀ b ∈ S.data.toList, b.toNat < 128) (h5 : 5 ≤ S.size) (hsz : S.size ≤ 100) (c : Int) (h0 : 128 ≤ c) (h1 : c ≤ 1114111) (w : World) :
    Calls Tryz.prog 130 #[.string S, .int .i32 c] w fun e w' => e = .returned (.int .i64 (-1)) ∧ Below w.heap.size w w' := by
  have hS2 : ∀ j, (h : j < S.size) → (S[j]'h).toNat < 128 := fun j hj => hS _ (Array.getElem_mem_toList (xs := S.data) hj)
  by_cases he : c = 65533
  · subst he
    refine irune_err S (fun j hj => ?_) hsz w
    have : S.get! j = S[j]'hj := by
      show S.data[j]! = _
      exact getElem!_pos S.data j hj
    rw [this]; exact hS2 j hj
  · by_cases hb : 55296 ≤ c ∧ c ≤ 57343
    · exact irune_bad S c hb.1 hb.2 w
    · have g3 : (0 ≤ c ∧ c < 55296) ∨ (57343 < c ∧ c ≤ 1114111) := by omega
      obtain ⟨k, hk, hk3, hl⟩ := encode_last c h0 g3
      exact irune_far S _ k c h0 g3 he rfl hk (by omega) (by omega) hl (hS2 k (by omega)) hS hsz w

set_option maxHeartbeats 1000000 in
theorem crune_far (S : ByteArray) (hS : ∀ b ∈ S.data.toList, b.toNat < 128) (h5 : 5 ≤ S.size) (hsz : S.size ≤ 100) (c : Int) (h0 : 128 ≤ c) (h1 : c ≤ 1114111) (w : World) :
    Calls Tryz.prog 115 #[.string S, .int .i32 c] w fun e w' => e = .returned (.bool false) ∧ Below w.heap.size w w' := by
  have HI : Hid (Calls Tryz.prog 130 #[.string S, .int .i32 c] w fun e w' => e = .returned (.int .i64 (-1)) ∧ Below w.heap.size w w') := irune_any S hS h5 hsz c h0 h1 w
  clear hS
  go_enter Tryz.func115, Tryz.ntmps115
  go_wp2_with fail
  go_at_call 130
  refine HI.out.mono ?_
  rintro e w' ⟨rfl, hb⟩
  go_wp2
  go_ret
  exact ⟨rfl, hb⟩

set_option maxHeartbeats 1000000 in
theorem irune_asc (S : ByteArray) (c : Int) (h0 : 0 ≤ c) (h1 : c < 128) (w : World) :
    Calls Tryz.prog 130 #[.string S, .int .i32 c] w fun e w' => e = .returned (.int .i64 (Lib.indexByte S.data.toList c.toNat.toUInt8)) ∧ w' = w := by
  have HI : Hid (Calls Tryz.prog 143 #[.string S, .int .u8 c] w fun e w' => e = .returned (.int .i64 (Lib.indexByte S.data.toList c.toNat.toUInt8)) ∧ w' = w) := ibyte_any S c w
  generalize Lib.indexByte S.data.toList c.toNat.toUInt8 = y at *
  go_enter Tryz.func130, Tryz.ntmps130
  go_wp2_with fail
  go_at_call 143
  refine HI.out.mono ?_
  rintro e w' ⟨rfl, rfl⟩
  go_wp2
  go_ret
  exact ⟨rfl, rfl⟩

set_option maxHeartbeats 1000000 in
theorem crune_asc (S : ByteArray) (c : Int) (h0 : 0 ≤ c) (h1 : c < 128) (w : World) :
    Calls Tryz.prog 115 #[.string S, .int .i32 c] w fun e w' => e = .returned (.bool (decide (0 ≤ Lib.indexByte S.data.toList c.toNat.toUInt8))) ∧ w' = w := by
  have HI : Hid (Calls Tryz.prog 130 #[.string S, .int .i32 c] w fun e w' => e = .returned (.int .i64 (Lib.indexByte S.data.toList c.toNat.toUInt8)) ∧ w' = w) := irune_asc S c h0 h1 w
  generalize Lib.indexByte S.data.toList c.toNat.toUInt8 = y at *
  go_enter Tryz.func115, Tryz.ntmps115
  go_wp2_with fail
  go_at_call 130
  refine HI.out.mono ?_
  rintro e w' ⟨rfl, rfl⟩
  by_cases hy : 0 ≤ y
  all_goals
    go_wp2
    go_ret
    simp [hy]

theorem signs_outer : ∀ n : Nat, n < 128 → outerS (n : Int) = decide (0 ≤ Lib.indexByte outerB.data.toList n.toUInt8) := by decide +kernel
theorem signs_inner : ∀ n : Nat, n < 128 → innerS (n : Int) = decide (0 ≤ Lib.indexByte innerB.data.toList n.toUInt8) := by decide +kernel
theorem outer_far (c : Int) (h : 128 ≤ c) : outerS c = false := by simp [outerS]; omega
theorem inner_far (c : Int) (h : 128 ≤ c) : innerS c = false := by simp [innerS]; omega
theorem con_any (S : ByteArray) (sg : Int → Bool) (hs : SignsOf S sg) (c : Int) (h0 : 0 ≤ c) (h1 : c ≤ 1114111) (w : World) :
    Calls Tryz.prog 115 #[.string S, .int .i32 c] w fun e w' => e = .returned (.bool (sg c)) ∧ Below w.heap.size w w' := by
  by_cases hc : c < 128
  · refine (crune_asc S c h0 hc w).mono ?_
    rintro e w' ⟨rfl, rfl⟩
    refine ⟨?_, Below.refl _ _⟩
    rcases hs with ⟨rfl, rfl⟩ | ⟨rfl, rfl⟩
    · have := signs_outer c.toNat (by omega)
      rw [Int.toNat_of_nonneg h0] at this
      rw [this]
    · have := signs_inner c.toNat (by omega)
      rw [Int.toNat_of_nonneg h0] at this
      rw [this]
  · rcases hs with ⟨rfl, rfl⟩ | ⟨rfl, rfl⟩
    · refine (crune_far outerB (by decide) (by decide) (by decide) c (by omega) h1 w).mono ?_
      rintro e w' ⟨rfl, hb⟩
      rw [outer_far c (by omega)]
      exact ⟨rfl, hb⟩
    · refine (crune_far innerB (by decide) (by decide) (by decide) c (by omega) h1 w).mono ?_
      rintro e w' ⟨rfl, hb⟩
      rw [inner_far c (by omega)]
      exact ⟨rfl, hb⟩
end Go.Proofs.YtbjohedenfindaaGreatDoor

namespace Go.Proofs.YtbjohedenfindaaGreatDoor
open Go.RowKit
set_option linter.unusedVariables false
set_option maxRecDepth 100000

theorem bytesB_append (a b : List Nat) : bytesB a ++ bytesB b = bytesB (a ++ b) := by
  apply ByteArray.ext
  rw [ByteArray.data_append]
  simp [bytesB]
set_option maxHeartbeats 4000000 in
theorem wtimes_any {a b : Int} (hok : TimesOk a b) (w : World) : Calls Tryz.prog 60 #[.int .i64 a, .int .i64 b] w fun e w' => e = .returned (.string (bytesB (timesB a b))) ∧ w' = w := by
  obtain ⟨h0, h1, h2⟩ := hok
  have hTa : (bytesB (decB a.toNat)).size ≤ 2 := by rw [bytesB_size]; unfold decB; split <;> simp
  have hTb : (bytesB (decB b.toNat)).size ≤ 2 := by rw [bytesB_size]; unfold decB; split <;> simp
  have HA : Hid (∀ w', Calls Tryz.prog 91 #[.int .i64 a] w' fun e w'' => e = .returned (.string (bytesB (decB a.toNat))) ∧ w'' = w') := fun w' => by
    have := itoa_any a.toNat (by omega) w'
    rw [Int.toNat_of_nonneg h0] at this
    exact this
  have HBb : Hid (0 ≤ b → ∀ w', Calls Tryz.prog 91 #[.int .i64 b] w' fun e w'' => e = .returned (.string (bytesB (decB b.toNat))) ∧ w'' = w') := fun hb w' => by
    have := itoa_any b.toNat (by omega) w'
    rw [Int.toNat_of_nonneg hb] at this
    exact this
  by_cases e1 : a = 0 ∧ b = -1
  · obtain ⟨rfl, rfl⟩ := e1
    go_enter Tryz.func60, Tryz.ntmps60
    go_wp2
    go_ret
    exact ⟨rfl, rfl⟩
  · by_cases e2 : a = 1 ∧ b = -1
    · obtain ⟨rfl, rfl⟩ := e2
      go_enter Tryz.func60, Tryz.ntmps60
      go_wp2
      go_ret
      exact ⟨rfl, rfl⟩
    · by_cases e3 : a = 0 ∧ b = 1
      · obtain ⟨rfl, rfl⟩ := e3
        go_enter Tryz.func60, Tryz.ntmps60
        go_wp2
        go_ret
        exact ⟨rfl, rfl⟩
      · have ht : timesB a b = if b = -1 then 123 :: (decB a.toNat ++ [44, 125]) else if a = b then 123 :: (decB a.toNat ++ [125]) else 123 :: (decB a.toNat ++ 44 :: (decB b.toNat ++ [125])) := by
          unfold timesB; rw [if_neg e1, if_neg e2, if_neg e3]
        rw [ht]
        by_cases e4 : b = -1
        · subst e4
          have na0 : (a == 0) = false := by rw [beq_eq_false_iff_ne]; omega
          have na1 : (a == 1) = false := by rw [beq_eq_false_iff_ne]; omega
          rw [if_pos rfl]
          clear ht e1 e2 e3 HBb
          have HE : Hid (bytesB (123 :: (decB a.toNat ++ [44, 125])) = (bytesB [123] ++ bytesB (decB a.toNat)) ++ bytesB [44, 125]) := by show _ = _; rw [bytesB_append, bytesB_append]; simp
          generalize bytesB (decB a.toNat) = T at *
          generalize bytesB (123 :: (decB a.toNat ++ [44, 125])) = U at *
          go_enter Tryz.func60, Tryz.ntmps60
          go_wp2_with (go_at_call 91; refine (HA.out _).mono ?_; rintro e w' ⟨rfl, rfl⟩)
          go_ret
          exact ⟨by rw [HE.out]; rfl, rfl⟩
        · have nb : (b == -1) = false := by rw [beq_eq_false_iff_ne]; exact e4
          rw [if_neg e4]
          have hb0 : 0 ≤ b := by omega
          have HB2 : Hid (∀ w', Calls Tryz.prog 91 #[.int .i64 b] w' fun e w'' => e = .returned (.string (bytesB (decB b.toNat))) ∧ w'' = w') := HBb.out hb0
          by_cases e5 : a = b
          · subst e5
            rw [if_pos rfl]
            have na : (a == 0) = false := by rw [beq_eq_false_iff_ne]; omega
            clear ht e1 e2 e3 HBb HB2 e4
            have HE : Hid (bytesB (123 :: (decB a.toNat ++ [125])) = (bytesB [123] ++ bytesB (decB a.toNat)) ++ bytesB [125]) := by show _ = _; rw [bytesB_append, bytesB_append]; simp
            generalize bytesB (decB a.toNat) = T at *
            generalize bytesB (123 :: (decB a.toNat ++ [125])) = U at *
            have hc : a = 1 ∨ (a == 1) = false := by
              by_cases h : a = 1
              · exact .inl h
              · right; rw [beq_eq_false_iff_ne]; exact h
            rcases hc with rfl | na1
            all_goals
              go_enter Tryz.func60, Tryz.ntmps60
              go_wp2_with (go_at_call 91; refine (HA.out _).mono ?_; rintro e w' ⟨rfl, rfl⟩)
              go_ret
              exact ⟨by rw [HE.out]; rfl, rfl⟩
          · rw [if_neg e5]
            have nab : (a == b) = false := by rw [beq_eq_false_iff_ne]; exact e5
            have n01 : (a = 0 ∧ (b == 1) = false) ∨ a = 1 ∨ ((a == 0) = false ∧ (a == 1) = false) := by
              by_cases h : a = 0
              · left; exact ⟨h, by rw [beq_eq_false_iff_ne]; exact fun e => e3 ⟨h, e⟩⟩
              · by_cases h' : a = 1
                · exact .inr (.inl h')
                · right; right; exact ⟨by rw [beq_eq_false_iff_ne]; exact h, by rw [beq_eq_false_iff_ne]; exact h'⟩
            have HE : Hid (bytesB (123 :: (decB a.toNat ++ 44 :: (decB b.toNat ++ [125]))) = (((bytesB [123] ++ bytesB (decB a.toNat)) ++ bytesB [44]) ++ bytesB (decB b.toNat)) ++ bytesB [125]) := by show _ = _; simp only [bytesB_append]; simp
            clear ht e1 e2 e3 HBb e4 e5
            generalize bytesB (123 :: (decB a.toNat ++ 44 :: (decB b.toNat ++ [125]))) = U at *
            generalize bytesB (decB a.toNat) = T at *
            generalize bytesB (decB b.toNat) = V at *
            rcases n01 with ⟨rfl, n01⟩ | rfl | ⟨n0, n1⟩
            all_goals
              go_enter Tryz.func60, Tryz.ntmps60
              go_wp2_with fail
              go_at_call 91
              refine (HA.out _).mono ?_
              rintro e w' ⟨rfl, rfl⟩
              go_wp2_with fail
              go_at_call 91
              refine (HB2.out _).mono ?_
              rintro e w' ⟨rfl, rfl⟩
              go_wp2
              go_ret
              exact ⟨by rw [HE.out]; rfl, rfl⟩

end Go.Proofs.YtbjohedenfindaaGreatDoor
