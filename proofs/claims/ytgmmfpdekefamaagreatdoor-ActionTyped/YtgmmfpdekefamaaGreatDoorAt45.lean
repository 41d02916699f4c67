/- Texts of the proof, put together: QTxt, QRea, As, AsCalls, Is, Code, ATol. -/
import Derived.Test.YtgmmfpdekefamaaGreatDoorAt44
import Derived.Test.YtgmmfpdekefamaaGreatDoorAt32
import Derived.Test.YtgmmfpdekefamaaGreatDoorProg
import Derived.WalkKit
import Derived.LaidEql
import Derived.Stop.Asserts
import Derived.RowKitTokens
namespace Go.Proofs.YtgmmfpdekefamaaGreatDoor
open Go.RowKit
set_option linter.unusedVariables false
set_option maxRecDepth 100000

theorem TxA.of {k z : Int} {tx : ByteArray} {ks : List Ex} (h1 : tx.size ≤ 140737488351232) (h2 : ks.length ≤ 140737488351232) (h3 : ∀ x ∈ ks, TxA x) : TxA (exN k z tx ks) := fun n => by
 cases n with
 | zero => trivial
 | succ n => exact ⟨h1, h2, fun x hx => h3 x hx n⟩
theorem TxA.leaf {k z : Int} {tx : ByteArray} (h1 : tx.size ≤ 140737488351232) : TxA (exN k z tx []) := TxA.of h1 (Nat.zero_le _) fun x hx => by cases hx
theorem emptyT_x : emptyT.size ≤ 140737488351232 := Nat.zero_le _
theorem extract_x {s : ByteArray} (hs : s.size ≤ 70000) (i j : Nat) : (s.extract i j).size ≤ 70000 := by
 rw [ByteArray.size_extract]; omega
theorem quo_x {s : ByteArray} (hs : s.size ≤ 70000) : ∀ (f i : Nat) (t r : ByteArray) (j : Nat), quoE s f i t = some (r, j) → r.size ≤ t.size + f * 70000
 | 0, _, _, _, _, h => by cases h
 | f + 1, i, t, r, j, h => by
  unfold quoE at h
  have k : ∀ (i' : Nat) (d : ByteArray), d.size ≤ 70000 → quoE s f i' (t ++ d) = some (r, j) → r.size ≤ t.size + (f + 1) * 70000 := fun i' d hd h => by
   have := quo_x hs f i' _ r j h
   rw [ByteArray.size_append] at this
   omega
  split at h
  ·split at h
   ·cases h
   ·split at h
    ·cases h; omega
    ·split at h
     ·exact k _ _ (extract_x hs _ _) h
     ·split at h
      ·split at h
       ·exact k _ _ (by decide) h
       ·split at h
        ·exact k _ _ (by decide) h
        ·split at h
         ·exact k _ _ (by decide) h
         ·cases h
      ·cases h
  ·cases h
def TokX (t : Tok) : Prop := t.text.size ≤ 140737488351232
theorem cut_x {s : ByteArray} (hs : s.size ≤ 70000) {p : Nat} {t : Tok} (h : cutE s p = some t) : TokX t := by
 unfold cutE at h
 generalize run blankB s p = i at *
 unfold cutAt at h
 unfold TokX
 split at h
 ·split at h
  ·obtain ⟨y, _, rfl⟩ := map_some h; exact emptyT_x
  ·split at h
   ·obtain ⟨y, _, rfl⟩ := map_some h; exact emptyT_x
   ·split at h
    ·obtain ⟨⟨r, j⟩, h1, rfl⟩ := map_some h
     have := quo_x hs _ _ _ _ _ h1
     have h0 : emptyT.size = 0 := rfl
     have h2 : (s.size - i) * 70000 ≤ 70000 * 70000 := Nat.mul_le_mul_right _ (by omega)
     show r.size ≤ _
     omega
    ·split at h
     ·cases h
      have := extract_x hs i (run wordB s i)
      show (s.extract i (run wordB s i)).size ≤ _
      omega
     ·split at h
      ·cases h
       have := extract_x hs i (i + sgnE s i)
       show (s.extract i (i + sgnE s i)).size ≤ _
       omega
      ·cases h
 ·cases h; exact emptyT_x
theorem next_x {s : ByteArray} (hs : s.size ≤ 70000) {o : Option Tok} {u : Tok} (h : nextS s o = some u) : TokX u := by
 cases o with
 | none => cases h
 | some t => exact cut_x hs h
theorem need_x {s : ByteArray} (hs : s.size ≤ 70000) {x : List UInt8} {o : Option Tok} {u : Tok} (h : needS s x o = some u) : TokX u := by
 unfold needS at h
 split at h
 ·exact next_x hs h
 ·cases h
theorem name_x {s : ByteArray} (hs : s.size ≤ 70000) {o : Option Tok} {u : Tok} (h : nameS s o = some u) : TokX u := by
 unfold nameS at h
 split at h
 ·exact next_x hs h
 ·cases h
/-- a reader gives what is small -/
def ReadX (r : Tok → RE) : Prop := ∀ t x u, TokX t → r t = some (x, u) → TxA x ∧ TokX u
theorem let_x {s : ByteArray} (hs : s.size ≤ 70000) {ex : Tok → RE} (hx : ReadX ex) {t u : Tok} {x : Ex} (ht : TokX t) (h : letS s ex (some t) = some (x, u)) : TxA x ∧ TokX u := by
 obtain ⟨t1, t2, t3, t4, v, b, k1, k2, k3, k4, k5, rfl⟩ := let_parts h
 have a1 := hx _ _ _ (need_x hs k2) k3
 have a2 := hx _ _ _ (need_x hs k4) k5
 exact ⟨TxA.of ht (by simp) (by simp; exact ⟨a1.1, a2.1⟩), a2.2⟩
theorem if_x {s : ByteArray} (hs : s.size ≤ 70000) {ex : Tok → RE} (hx : ReadX ex) {t u : Tok} {x : Ex} (ht : TokX t) (h : ifS s ex (some t) = some (x, u)) : TxA x ∧ TokX u := by
 obtain ⟨t1, t2, t3, t4, a, b, c, k1, k2, k3, k4, k5, rfl⟩ := if_parts h
 have a1 := hx _ _ _ ht k1
 have a2 := hx _ _ _ (need_x hs k2) k3
 have a3 := hx _ _ _ (need_x hs k4) k5
 exact ⟨TxA.of emptyT_x (by simp) (by simp; exact ⟨a1.1, a2.1, a3.1⟩), a3.2⟩
theorem els_x {s : ByteArray} (hs : s.size ≤ 70000) {ex : Tok → RE} (hx : ReadX ex) (f : Nat) : ∀ {acc : List Ex} {t u : Tok} {x : Ex}, TokX t → acc.length + f ≤ 80000 → (∀ k ∈ acc, TxA k) → elsS s ex f acc (some t) = some (x, u) → TxA x ∧ TokX u := by
 induction f using Nat.strongRecOn with
 | _ f ih =>
  intro acc t u x ht hl ha h
  have hf : 0 < f := by
   cases f with
   | zero => cases h
   | succ f => omega
  obtain ⟨y, t1, h1, h2⟩ := els_step h
  have a1 := hx _ _ _ ht h1
  have ha2 : ∀ k ∈ acc ++ [y], TxA k := fun k hk => by
   rcases List.mem_append.1 hk with hk | hk
   ·exact ha k hk
   ·rw [List.mem_singleton.1 hk]; exact a1.1
  rcases h2 with ⟨_, h3, rfl⟩ | ⟨_, f', t2, hf2, h3, h4⟩
  ·exact ⟨TxA.of emptyT_x (by simp; omega) ha2, cut_x hs h3⟩
  ·exact ih f' hf2 (need_x hs h3) (by simp; omega) ha2 h4
theorem arg_x {s : ByteArray} (hs : s.size ≤ 70000) {ex : Tok → RE} (hx : ReadX ex) : ∀ (n : Nat) {acc l : List Ex} {t u : Tok}, acc ≠ [] → TokX t → (∀ k ∈ acc, TxA k) → argS s ex n acc (some t) = some (l, u) → (∀ k ∈ l, TxA k) ∧ TokX u ∧ l.length = acc.length + n
 | 0, acc, l, t, u, _, ht, ha, h => by
  obtain ⟨rfl, rfl⟩ := arg_zero h
  exact ⟨ha, ht, rfl⟩
 | n + 1, acc, l, t, u, hne, ht, ha, h => by
  obtain ⟨t2, k, t3, k1, k2, k3⟩ := arg_next h hne
  have a1 := hx _ _ _ (need_x hs k1) k2
  have := arg_x hs hx n (acc := acc ++ [k]) (by simp) a1.2 (fun y hy => by
   rcases List.mem_append.1 hy with hy | hy
   ·exact ha y hy
   ·rw [List.mem_singleton.1 hy]; exact a1.1) k3
  refine ⟨this.1, this.2.1, ?_⟩
  rw [this.2.2]; simp; omega
theorem atom_x {s : ByteArray} (hs : s.size ≤ 70000) {ex : Tok → RE} (hx : ReadX ex) : ReadX (atomS s ex) := fun t x u ht h => by
 unfold atomS at h
 split at h
 ·obtain ⟨u', k1, k2⟩ := map_some h
  cases k2
  exact ⟨TxA.leaf emptyT_x, next_x hs k1⟩
 split at h
 ·obtain ⟨u', k1, k2⟩ := map_some h
  cases k2
  exact ⟨TxA.leaf emptyT_x, next_x hs k1⟩
 split at h
 ·obtain ⟨u', k1, k2⟩ := map_some h
  cases k2
  exact ⟨TxA.leaf ht, next_x hs k1⟩
 split at h
 ·split at h
  ·cases h
  ·rename_i e u2 h1
   obtain ⟨t1, k1, k2⟩ := bind_two h1
   obtain ⟨u', k3, k4⟩ := map_some h
   cases k4
   exact ⟨(hx _ _ _ (next_x hs k1) k2).1, need_x hs k3⟩
 split at h
 ·unfold listS at h
  split at h
  ·obtain ⟨u', k1, k2⟩ := map_some h
   cases k2
   exact ⟨TxA.leaf emptyT_x, next_x hs k1⟩
  ·cases hn : nextS s (some t) with
   | none => rw [hn] at h; simp [elsS] at h
   | some t1 =>
    rw [hn] at h
    exact els_x hs hx (s.size + 1) (next_x hs hn) (by simp; omega) (by simp) h
 split at h
 ·rename_i hk
  obtain ⟨N, hN⟩ : ∃ N, (kidsL t.text.toList).toNat = N + 1 := ⟨(kidsL t.text.toList).toNat - 1, by omega⟩
  obtain ⟨n3, e3, hn3⟩ := kidsL_three' t.text.toList
  rw [hN] at h
  cases hn : nextS s (some t) with
  | none => rw [hn] at h; unfold callS at h; rw [show needS s [40] none = none from rfl] at h; simp [argS] at h
  | some t1 =>
   rw [hn] at h
   obtain ⟨t1, k, t2, l, t3, k1, k2, k3, k4, rfl⟩ := call_parts h
   have a1 := hx _ _ _ (need_x hs k1) k2
   have := arg_x hs hx N (acc := [k]) (by simp) a1.2 (fun y hy => by rw [List.mem_singleton.1 hy]; exact a1.1) k3
   exact ⟨TxA.of ht (by rw [this.2.2]; simp; omega) this.1, need_x hs k4⟩
 ·obtain ⟨u', k1, k2⟩ := map_some h
  cases k2
  exact ⟨TxA.leaf ht, name_x hs k1⟩
theorem sgd_x {s : ByteArray} (hs : s.size ≤ 70000) {ex : Tok → RE} (hx : ReadX ex) : ∀ f, ReadX (sgdS s ex f)
 | 0 => fun t x u ht h => by cases h
 | f + 1 => fun t x u ht h => by
  unfold sgdS at h
  split at h
  ·split at h
   ·cases h
   ·rename_i k u' h1
    cases h
    obtain ⟨t1, k1, k2⟩ := bind_two h1
    have a1 := sgd_x hs hx f _ _ _ (next_x hs k1) k2
    exact ⟨TxA.of emptyT_x (by simp) (by simp; exact a1.1), a1.2⟩
  ·exact atom_x hs hx t x u ht h
theorem ops_x {s : ByteArray} (hs : s.size ≤ 70000) {lv : Int} {sub : Tok → RE} (hx : ReadX sub) : ∀ (f : Nat) (e : Ex) (t u : Tok) (x : Ex), TokX t → TxA e → opsS s lv sub f e t = some (x, u) → TxA x ∧ TokX u
 | 0, _, _, _, _, _, _, h => by cases h
 | f + 1, e, t, u, x, ht, he, h => by
  unfold opsS at h
  split at h
  ·split at h
   ·cases h
   ·rename_i k u' h1
    obtain ⟨t1, k1, k2⟩ := bind_two h1
    have a1 := hx _ _ _ (next_x hs k1) k2
    have a2 : TxA (exN 7 0 t.text [e, k]) := TxA.of ht (by simp) (by simp; exact ⟨he, a1.1⟩)
    split at h
    ·cases h; exact ⟨a2, a1.2⟩
    ·exact ops_x hs hx f _ _ _ _ a1.2 a2 h
  ·cases h; exact ⟨he, ht⟩
theorem lev_x {s : ByteArray} (hs : s.size ≤ 70000) {lv : Int} {sub : Tok → RE} (hx : ReadX sub) : ReadX (levS s lv sub) := fun t x u ht h => by
 unfold levS at h
 split at h
 ·cases h
 ·rename_i e u' h1
  have a1 := hx _ _ _ ht h1
  exact ops_x hs hx _ _ _ _ _ a1.2 a1.1 h
theorem expr_x {s : ByteArray} (hs : s.size ≤ 70000) : ∀ f, ReadX (exprS s f)
 | 0 => fun t x u ht h => by cases h
 | f + 1 => fun t x u ht h => by
  have ih := expr_x hs f
  unfold exprS at h
  split at h
  ·obtain ⟨t1, ht1⟩ := let_some h
   rw [ht1] at h
   exact let_x hs ih (next_x hs ht1) h
  ·split at h
   ·obtain ⟨t1, ht1⟩ := if_some h
    rw [ht1] at h
    exact if_x hs ih (next_x hs ht1) h
   ·exact lev_x hs (lev_x hs (lev_x hs (sgd_x hs ih _))) t x u ht h
theorem read_x {s : ByteArray} (hs : s.size ≤ 70000) {x : Ex} (h : readE s = some x) : TxA x := by
 obtain ⟨t, u, k1, k2, k3⟩ := read_parts h
 exact (expr_x hs _ _ _ _ (cut_x hs k1) k2).1

end Go.Proofs.YtgmmfpdekefamaaGreatDoor

namespace Go.Proofs.YtgmmfpdekefamaaGreatDoor
open Go.RowKit
set_option linter.unusedVariables false
set_option maxRecDepth 100000

set_option maxHeartbeats 4000000 in
/-- Read gives what the document's reader gives, where that is valid -/
theorem aread_any {w : World} {s : ByteArray} (hU : UtfW w) (hVd : VdC w) (hbig : 16 ≤ w.heap.size) (hs : s.size ≤ 65536) {x : Ex} (hx : readE s = some x) (hok : okX x = true) :
  Calls Tryz.prog 15 #[.string s] w fun e w' => ∃ p : Option Addr, e = .returned (.tuple #[.pointer p, .nilIface]) ∧ Below w.heap.size w w' ∧ ExB w.heap.size w' (.pointer p) x := by
 have hw : wellE x = true := by unfold okX at hok; rw [Bool.and_eq_true] at hok; exact hok.1
 have hT := read_x (by omega) hx
 have hmf : ∀ (fn : Fn) (first cap : Array Value) (w : World), (Instr.makeFunc fn first cap).run Tryz.prog w = .ok (.func fn first cap) w := fun _ _ _ _ => rfl
 have hb1 := alloc_below w (.cells #[.string s, .int .i64 0] 78)
 have hA1 : CtA (w.alloc (.cells #[.string s, .int .i64 0] 78)) w.heap.size s 0 := allocAtA w _
 have hU1 : UtfW (w.alloc (.cells #[.string s, .int .i64 0] 78)) := hU.g2 (G2.below (R := w.heap.size) (C := w.heap.size) hb1) hbig hbig
 have HP : Hid (Calls Tryz.prog 33 #[.string s, .iface 76 (.pointer (some ⟨w.heap.size, 0, none⟩)), .func (.func 34) #[] #[]] (w.alloc (.cells #[.string s, .int .i64 0] 78)) fun e w' => ∃ p : Option Addr, e = .returned (.tuple #[.pointer p, .nilIface]) ∧ Below w.heap.size w w' ∧ ExB w.heap.size w' (.pointer p) x ∧ Calls Tryz.prog 9 #[.pointer p] w' fun e w'' => e = .returned (.bool true) ∧ Below w.heap.size w w'' ∧ ExB w.heap.size w'' (.pointer p) x) := by
  refine (phread_any hA1 hU1 hbig hs hx hw).mono ?_
  rintro e w' ⟨p, q1, q2, q3, q4, q5, q6, q7⟩
  rw [alloc_size] at q2 q6 q7
  have hB : Below w.heap.size w w' := ⟨q3, q4, q5, by omega, fun b hb => (q2 b (by omega) (by omega)).trans (hb1.block b hb)⟩
  have hE : ExB w.heap.size w' (.pointer p) x := ExB.mono q7 (by omega)
  refine ⟨p, q1, hB, hE, ?_⟩
  refine (aok_any (hVd.below hB) hE hT).mono ?_
  rintro e w'' ⟨k1, k2⟩
  rw [hok] at k1
  exact ⟨k1, hB.trans (k2.mono (by omega)), ExB.below hE k2⟩
 clear hU hVd hx hok hw hT hb1 hA1 hU1
 go_enter Tryz.func15, Tryz.ntmps15
 go_wp2_with fail
 go_at_call 33
 refine HP.out.mono ?_
 rintro e w3 ⟨p, rfl, hb, he, hO⟩
 have HO : Hid (Calls Tryz.prog 9 #[.pointer p] w3 fun e w'' => e = .returned (.bool true) ∧ Below w.heap.size w w'' ∧ ExB w.heap.size w'' (.pointer p) x) := hO
 clear hb he hO HP
 go_wp2_with fail
 go_at_call 9
 refine HO.out.mono ?_
 rintro e w4 ⟨rfl, hb, he⟩
 have HG : Hid (Below w.heap.size w w4 ∧ ExB w.heap.size w4 (.pointer p) x) := ⟨hb, he⟩
 clear hb he HO
 go_wp2
 go_ret2
 exact ⟨p, rfl, HG.out⟩

end Go.Proofs.YtgmmfpdekefamaaGreatDoor

namespace Go.Proofs.YtgmmfpdekefamaaGreatDoor
open Go.RowKit Go.Extern.Stop Go.Stop Go.Extern
set_option linter.unusedVariables false
set_option maxRecDepth 100000

theorem Tryz.valueOfP (t : Addr) (w : World) : (ReflectliteValue.unpack (.iface 112 (.pointer (some t)))).run Tryz.prog w
  = .ok (.agg #[.pointer (some ⟨16, 112, none⟩), .pointer (some ⟨w.heap.size, 0, none⟩), .int .u64 150]) (w.alloc (.cells #[.pointer (some t)] 112)) := by kernel_rfl
theorem Tryz.typeP (a : Addr) (w : World) : (ReflectliteValue.methodAny (ReflectliteValue.valueError "reflectlite.Value.Type" 0) (fun t _ _ _ => ReflectliteType.toType t) #[.agg #[.pointer (some ⟨16, 112, none⟩), .pointer (some a), .int .u64 150]]).run Tryz.prog w
  = .ok (.iface 234 (.agg #[.pointer (some ⟨16, 112, none⟩)])) w := by kernel_rfl
theorem Tryz.methodKind (h : Value) (w : World) : (Go.method 431 234 (.agg #[h]) "Kind").run Tryz.prog w = .ok (224, h) w := by kernel_rfl
theorem Tryz.kindP (w : World) : ((ReflectliteType.abiMethod fun t => (fun a : Nat => Value.int IntKind.u8 (a : Int)) <$> Rtype.kind t) #[.pointer (some ⟨16, 112, none⟩)]).run Tryz.prog w = .ok (.int .u8 22) w := by kernel_rfl
theorem Tryz.kindF (w : World) : ((ReflectliteType.abiMethod fun t => (fun a : Nat => Value.int IntKind.u8 (a : Int)) <$> Rtype.kind t) #[.pointer (some ⟨16, 81, none⟩)]).run Tryz.prog w = .ok (.int .u8 22) w := by kernel_rfl

theorem rlm (z : Sem Value) (f : TypeId → Addr → Nat → Nat → Sem Value) (v : Value) :
  ReflectliteValue.method z f #[v] = (do match ← ReflectliteValue.parts v with | none => z | some (t, a, fl) => f t a fl (fl % 32)) := rfl
theorem Tryz.partsP (a : Addr) (w : World) : (ReflectliteValue.parts (.agg #[.pointer (some ⟨16, 112, none⟩), .pointer (some a), .int .u64 150])).run Tryz.prog w = .ok (some (112, a, 150)) w := by kernel_rfl
theorem Tryz.isNilP (a p : Addr) (W : World) (ha : W.cell? a = some (.pointer (some p))) :
  (ReflectliteValue.method (ReflectliteValue.valueError "reflectlite.Value.IsNil" 0) ReflectliteValue.isNil #[.agg #[.pointer (some ⟨16, 112, none⟩), .pointer (some a), .int .u64 150]]).run Tryz.prog W = .ok (.bool false) W := by
 rw [rlm]
 simp only [Sem.run_bind, Tryz.partsP, Result.andThen]
 simp [ReflectliteValue.isNil, loadVar, isAgg, underlying, Tryz.underlying112, ha, Result.andThen]

theorem Tryz.methodElem (h : Value) (w : World) : (Go.method 431 234 (.agg #[h]) "Elem").run Tryz.prog w = .ok (252, .agg #[h]) w := by kernel_rfl
theorem Tryz.methodImplements (h : Value) (w : World) : (Go.method 431 234 (.agg #[h]) "Implements").run Tryz.prog w = .ok (253, .agg #[h]) w := by kernel_rfl
theorem Tryz.methodAssignableTo (h : Value) (w : World) : (Go.method 431 234 (.agg #[h]) "AssignableTo").run Tryz.prog w = .ok (250, .agg #[h]) w := by kernel_rfl
theorem Tryz.elemP (w : World) : (ReflectliteType.method ReflectliteType.elem #[.agg #[.pointer (some ⟨16, 112, none⟩)]]).run Tryz.prog w = .ok (.iface 234 (.agg #[.pointer (some ⟨16, 81, none⟩)])) w := by kernel_rfl
theorem Tryz.implementsF (w : World) : (ReflectliteType.relation "Implements" ReflectliteType.implements_ #[.agg #[.pointer (some ⟨16, 81, none⟩)], .iface 234 (.agg #[.pointer (some ⟨16, 28, none⟩)])]).run Tryz.prog w = .ok (.bool true) w := by kernel_rfl
theorem Tryz.typeOfE (v : Value) (w : World) : (ReflectliteType.typeOf #[.iface 294 v]).run Tryz.prog w = .ok (.iface 234 (.agg #[.pointer (some ⟨16, 294, none⟩)])) w := by kernel_rfl
theorem Tryz.assignableE (w : World) : (ReflectliteType.relation "AssignableTo" ReflectliteType.assignableTo #[.agg #[.pointer (some ⟨16, 294, none⟩)], .iface 234 (.agg #[.pointer (some ⟨16, 81, none⟩)])]).run Tryz.prog w = .ok (.bool false) w := by kernel_rfl
theorem Tryz.noAsE (v : Value) (xT : TypeId) (w : World) : (Instr.typeAssert (.iface 294 v) xT 238 true).run Tryz.prog w = .ok (.tuple #[.nilIface, .bool false]) w := run_typeAssert_lacksB Tryz.underlying238 (by kernel_rfl) (by kernel_rfl) v xT w
theorem Tryz.noUnwrapA (v : Value) (xT : TypeId) (w : World) : (Instr.typeAssert (.iface 294 v) xT 241 true).run Tryz.prog w = .ok (.tuple #[.nilIface, .bool false]) w := run_typeAssert_lacksB Tryz.underlying241 (by kernel_rfl) (by kernel_rfl) v xT w
theorem Tryz.noUnwrapsA (v : Value) (xT : TypeId) (w : World) : (Instr.typeAssert (.iface 294 v) xT 243 true).run Tryz.prog w = .ok (.tuple #[.nilIface, .bool false]) w := run_typeAssert_lacksB Tryz.underlying243 (by kernel_rfl) (by kernel_rfl) v xT w

end Go.Proofs.YtgmmfpdekefamaaGreatDoor

namespace Go.Proofs.YtgmmfpdekefamaaGreatDoor
open Go.RowKit Go.Extern.Stop Go.Stop Go.Extern
set_option linter.unusedVariables false
set_option maxRecDepth 100000

theorem lt_of_cell {w : World} {a : Addr} {v : Value} (h : w.cell? a = some v) : a.block < w.heap.size := by
 rcases Nat.lt_or_ge a.block w.heap.size with h' | h'
 ·exact h'
 ·simp [World.cell?, Array.getElem?_eq_none h'] at h

set_option maxHeartbeats 4000000 in
theorem as_miss (e t : Addr) (old : Value) (w : World) (hg : w.cell? ⟨7, 0, none⟩ = some (.iface 234 (.agg #[.pointer (some ⟨16, 28, none⟩)]))) :
  Calls Tryz.prog 53 #[.iface 294 (.pointer (some e)), .iface 112 (.pointer (some t))] w fun ev w' => ev = .returned (.bool false) ∧ w' = ((w.alloc (.cells #[.pointer (some t)] 112)).alloc (.cells #[.pointer (some ⟨16, 112, none⟩), .pointer (some ⟨w.heap.size, 0, none⟩), .int .u64 150] 183)).alloc (.cells #[.pointer (some ⟨16, 112, none⟩), .pointer (some ⟨w.heap.size, 0, none⟩), .int .u64 150] 183) := by
 have h6 := @run_callFunc_extern Tryz.prog 103 _ (fun args => ReflectliteValue.unpack (args.getD 0 (.tuple #[]))) Tryz.func103 (by kernel_rfl) (by kernel_rfl) (by kernel_rfl) (by kernel_rfl)
 have h7 := @run_callFunc_extern Tryz.prog 104 _ (ReflectliteValue.methodAny (ReflectliteValue.valueError "reflectlite.Value.Type" 0) (fun t _ _ _ => ReflectliteType.toType t)) Tryz.func104 (by kernel_rfl) (by kernel_rfl) (by kernel_rfl) (by kernel_rfl)
 have h8 := @run_callFunc_extern Tryz.prog 105 _ (ReflectliteValue.method (ReflectliteValue.valueError "reflectlite.Value.IsNil" 0) ReflectliteValue.isNil) Tryz.func105 (by kernel_rfl) (by kernel_rfl) (by kernel_rfl) (by kernel_rfl)
 have h27 := @run_callFunc_extern Tryz.prog 224 _ (ReflectliteType.abiMethod fun t => do pure (.int .u8 (← Rtype.kind t))) Tryz.func224 (by kernel_rfl) (by kernel_rfl) (by kernel_rfl) (by kernel_rfl)
 have h37 := @run_callFunc_extern Tryz.prog 252 _ (ReflectliteType.method ReflectliteType.elem) Tryz.func252 (by kernel_rfl) (by kernel_rfl) (by kernel_rfl) (by kernel_rfl)
 have h38 := @run_callFunc_extern Tryz.prog 253 _ (ReflectliteType.relation "Implements" ReflectliteType.implements_) Tryz.func253 (by kernel_rfl) (by kernel_rfl) (by kernel_rfl) (by kernel_rfl)
 have h10 := @run_callFunc_extern Tryz.prog 107 _ ReflectliteType.typeOf Tryz.func107 (by kernel_rfl) (by kernel_rfl) (by kernel_rfl) (by kernel_rfl)
 have h35 := @run_callFunc_extern Tryz.prog 250 _ (ReflectliteType.relation "AssignableTo" ReflectliteType.assignableTo) Tryz.func250 (by kernel_rfl) (by kernel_rfl) (by kernel_rfl) (by kernel_rfl)
 have tO := Tryz.typeOfE
 have mA := Tryz.methodAssignableTo
 have a25 := Tryz.assignableE
 have f6 := Tryz.valueOfP
 have f7 := Tryz.typeP
 have mK := Tryz.methodKind
 have mE := Tryz.methodElem
 have mI := Tryz.methodImplements
 have k27 := Tryz.kindP
 have k25 := Tryz.kindF
 have e27 := Tryz.elemP
 have i25 := Tryz.implementsF
 have nA := Tryz.noAsE
 have uA := Tryz.noUnwrapA
 have usA := Tryz.noUnwrapsA
 have n8 := Tryz.isNilP ⟨w.heap.size, 0, none⟩ t ((w.alloc (.cells #[.pointer (some t)] 112)).alloc (.cells #[.pointer (some ⟨16, 112, none⟩), .pointer (some ⟨w.heap.size, 0, none⟩), .int .u64 150] 183)) (by simp)
 have hlt : 7 < w.heap.size := lt_of_cell hg
 have hg2 : ((w.alloc (.cells #[.pointer (some t)] 112)).alloc (.cells #[.pointer (some ⟨16, 112, none⟩), .pointer (some ⟨w.heap.size, 0, none⟩), .int .u64 150] 183)).cell? ⟨7, 0, none⟩ = some (.iface 234 (.agg #[.pointer (some ⟨16, 28, none⟩)])) := by
  rw [World.cell?_alloc_lt _ _ ⟨7, 0, none⟩ (by simp; omega), World.cell?_alloc_lt _ _ ⟨7, 0, none⟩ hlt]; exact hg
 go_enter Tryz.func53, Tryz.ntmps53
 go_wp2
 refine wp_loop_rounds 1 ?_
 rw [rounds_succ]
 go_wp2
 go_ret
 exact ⟨rfl, rfl⟩
end Go.Proofs.YtgmmfpdekefamaaGreatDoor

namespace Go.Proofs.YtgmmfpdekefamaaGreatDoor
open Go.RowKit Go.Extern.Stop Go.Stop Go.Extern
set_option linter.unusedVariables false
set_option maxRecDepth 100000

theorem Tryz.isTypeOf (v : Value) (w : World) : (Extern.ReflectliteType.typeOf #[.iface 294 v]).run Tryz.prog w = .ok (.iface 234 (.agg #[.pointer (some ⟨16, 294, none⟩)])) w := by kernel_rfl
theorem Tryz.isComparable0 (w : World) : ((Extern.ReflectliteType.method fun t => do Rtype.noPackHeld "Comparable" t; pure (.bool (← typeInfo t).comparable)) #[.agg #[.pointer (some ⟨16, 294, none⟩)]]).run Tryz.prog w = .ok (.bool true) w := by kernel_rfl
theorem Tryz.isComparable (w : World) : (callFunc 251 #[.agg #[.pointer (some ⟨16, 294, none⟩)]]).run Tryz.prog w = .ok (.value (.bool true)) w := by
 rw [@run_callFunc_extern Tryz.prog 251 _ (Extern.ReflectliteType.method fun t => do Rtype.noPackHeld "Comparable" t; pure (.bool (← typeInfo t).comparable)) Tryz.func251 (by kernel_rfl) (by kernel_rfl) (by kernel_rfl) (by kernel_rfl), Tryz.isComparable0]
 rfl
theorem Tryz.isMethodComparable (v : Value) (w : World) : (Go.method 431 234 v "Comparable").run Tryz.prog w = .ok (251, v) w := by kernel_rfl
theorem Tryz.isComp : (Tryz.prog.info? 294).map (·.comparable) = some true := by kernel_rfl
theorem Tryz.isSize : (Tryz.prog.info? 296).map (·.size) = some 1 := by kernel_rfl
theorem Tryz.noIsE (v : Value) (xT : TypeId) (w : World) : (Instr.typeAssert (.iface 294 v) xT 245 true).run Tryz.prog w = .ok (.tuple #[.nilIface, .bool false]) w := run_typeAssert_lacksB Tryz.underlying245 (by kernel_rfl) (by kernel_rfl) v xT w
theorem Tryz.noUnwrapE (v : Value) (xT : TypeId) (w : World) : (Instr.typeAssert (.iface 294 v) xT 241 true).run Tryz.prog w = .ok (.tuple #[.nilIface, .bool false]) w := run_typeAssert_lacksB Tryz.underlying241 (by kernel_rfl) (by kernel_rfl) v xT w
theorem Tryz.noUnwrapsE (v : Value) (xT : TypeId) (w : World) : (Instr.typeAssert (.iface 294 v) xT 243 true).run Tryz.prog w = .ok (.tuple #[.nilIface, .bool false]) w := run_typeAssert_lacksB Tryz.underlying243 (by kernel_rfl) (by kernel_rfl) v xT w
/-- errors.Is of an error and itself. -/
theorem is_same (a : Addr) (w : World) :
  Calls Tryz.prog 54 #[.iface 294 (.pointer (some a)), .iface 294 (.pointer (some a))] w fun e w' => e = .returned (.bool true) ∧ w' = w := by
 obtain ⟨i, hi, hcmp⟩ := Option.map_eq_some_iff.1 Tryz.isComp
 obtain ⟨j, hj, hjs⟩ := Option.map_eq_some_iff.1 Tryz.isSize
 have h8 := @run_callFunc_extern Tryz.prog 107 _ Extern.ReflectliteType.typeOf Tryz.func107 (by kernel_rfl) (by kernel_rfl) (by kernel_rfl) (by kernel_rfl)
 have tT := Tryz.isTypeOf
 have cT := Tryz.isComparable
 have mR := Tryz.isMethodComparable
 have heq := run_eql_iface_ptr_same (P := Tryz.prog) w a Tryz.underlying28 Tryz.underlying294 hi hcmp hj
 go_enter Tryz.func54, Tryz.ntmps54
 go_wp2
 refine wp_loop_rounds 1 ?_
 rw [rounds_succ]
 go_wp2
 go_ret
 exact ⟨rfl, rfl⟩

/-- errors.Is of two different errors of errors.New's make. -/
theorem is_other (a b : Addr) (ca cb : Array Value) (ta tb : TypeId) (w : World) (hne : a ≠ b) (ha : w.heap[a.block]? = some (.cells ca ta (0, 0))) (hb : w.heap[b.block]? = some (.cells cb tb (0, 0))) :
  Calls Tryz.prog 54 #[.iface 294 (.pointer (some a)), .iface 294 (.pointer (some b))] w fun e w' => e = .returned (.bool false) ∧ w' = w := by
 obtain ⟨i, hi, hcmp⟩ := Option.map_eq_some_iff.1 Tryz.isComp
 obtain ⟨j, hj, hjs⟩ := Option.map_eq_some_iff.1 Tryz.isSize
 have h8 := @run_callFunc_extern Tryz.prog 107 _ Extern.ReflectliteType.typeOf Tryz.func107 (by kernel_rfl) (by kernel_rfl) (by kernel_rfl) (by kernel_rfl)
 have tT := Tryz.isTypeOf
 have cT := Tryz.isComparable
 have mR := Tryz.isMethodComparable
 have nE := Tryz.noIsE
 have uE := Tryz.noUnwrapE
 have vE := Tryz.noUnwrapsE
 have heq := run_eql_iface_ptr_other (P := Tryz.prog) w Tryz.underlying28 Tryz.underlying294 hi hcmp hj (by rw [hjs]; decide) hne ha hb
 go_enter Tryz.func54, Tryz.ntmps54
 go_wp2
 refine wp_loop_rounds 1 ?_
 rw [rounds_succ]
 go_wp2
 go_ret
 exact ⟨rfl, rfl⟩

end Go.Proofs.YtgmmfpdekefamaaGreatDoor

namespace Go.Proofs.YtgmmfpdekefamaaGreatDoor
open Go.RowKit Go.Extern.Stop Go.Stop Go.Extern
set_option linter.unusedVariables false
set_option maxRecDepth 100000

/-- What the walk is told of the errors of package api and of the package errors' own variable: each error is a pointer of its own. -/
structure Errs (w : World) (a : Nat → Addr) : Prop where
 cell : ∀ j, j < 7 → w.cell? ⟨j, 0, none⟩ = some (.iface 294 (.pointer (some (a j))))
 row : ∀ j, j < 7 → ∃ c t, w.heap[(a j).block]? = some (.cells c t (0, 0))
 apart : ∀ i j, i < 7 → j < 7 → i ≠ j → a i ≠ a j
 type : w.cell? ⟨7, 0, none⟩ = some (.iface 234 (.agg #[.pointer (some ⟨16, 28, none⟩)]))

theorem Errs.size {w : World} {a : Nat → Addr} (h : Errs w a) : 7 < w.heap.size := lt_of_cell h.type
theorem Errs.below {w w' : World} {a : Nat → Addr} (h : Errs w a) {B : Nat} (hb : Below B w w') (hB : w.heap.size ≤ B) : Errs w' a := by
 have hs := h.size
 have hbs := hb.size
 refine ⟨fun j hj => (hb.cell (p := ⟨j, 0, none⟩) (by show j < B; omega)).trans (h.cell j hj), fun j hj => ?_, h.apart, (hb.cell (p := ⟨7, 0, none⟩) (by show 7 < B; omega)).trans h.type⟩
 obtain ⟨c, t, hc⟩ := h.row j hj
 have hlt : (a j).block < w.heap.size := (Array.getElem?_eq_some_iff.1 hc).1
 exact ⟨c, t, (hb.block _ (by omega)).trans hc⟩

def hitE (i j : Nat) : Bool := decide (i = j)

theorem is_list (w : World) (a : Nat → Addr) (h : Errs w a) (i j : Nat) (hi : i < 7) (hj : j < 7) :
  Calls Tryz.prog 54 #[.iface 294 (.pointer (some (a i))), .iface 294 (.pointer (some (a j)))] w fun e w' => e = .returned (.bool (hitE i j)) ∧ w' = w := by
 by_cases e : i = j
 ·subst e
  have : hitE i i = true := by simp [hitE]
  rw [this]
  exact is_same (a i) w
 ·obtain ⟨ca, ta, ha⟩ := h.row i hi
  obtain ⟨cb, tb, hb⟩ := h.row j hj
  have : hitE i j = false := by simp [hitE, e]
  rw [this]
  exact is_other (a i) (a j) ca cb ta tb w (h.apart i j hi hj e) ha hb

theorem list_cell (W : World) (a : Nat → Addr) (j : Nat) (hj : j < 7) : (W.alloc (.cells #[.iface 294 (.pointer (some (a 0))), .iface 294 (.pointer (some (a 1))), .iface 294 (.pointer (some (a 2))), .iface 294 (.pointer (some (a 3))), .iface 294 (.pointer (some (a 4))), .iface 294 (.pointer (some (a 5))), .iface 294 (.pointer (some (a 6)))] 28)).cell? ⟨W.heap.size, j, none⟩ = some (.iface 294 (.pointer (some (a j)))) := by
 rw [World.cell?_alloc_at _ _ _ _ rfl]
 match j, hj with
 | 0, _ => rfl
 | 1, _ => rfl
 | 2, _ => rfl
 | 3, _ => rfl
 | 4, _ => rfl
 | 5, _ => rfl
 | 6, _ => rfl

set_option maxHeartbeats 1000000 in
theorem code_nil (w : World) : Calls Tryz.prog 29 #[.nilIface] w fun e w' => e = .returned (.tuple #[.int .i64 0, .int .i64 (-1)]) ∧ w' = w := by
 go_enter Tryz.func29, Tryz.ntmps29
 go_wp2
 go_ret2
 exact ⟨rfl, rfl⟩

set_option maxHeartbeats 2000000 in
theorem code_err (w : World) (a : Nat → Addr) (h : Errs w a) (i : Nat) (hi : i < 7) :
  Calls Tryz.prog 29 #[.iface 294 (.pointer (some (a i)))] w fun e w' => e = .returned (.tuple #[.int .i64 ((i : Int) + 1), .int .i64 (-1)]) ∧ Below w.heap.size w w' := by
 have b1 : Below w.heap.size w (w.alloc (.cells #[.pointer none] 81)) := (Below.refl _ w).alloc (Nat.le_refl _) _
 have hE1 := (h.below b1 (Nat.le_refl _)).type
 go_enter Tryz.func29, Tryz.ntmps29
 go_wp2_with (go_at_call 53; refine (as_miss (a i) _ (.pointer none) _ hE1).mono ?_)
 rintro e w1 ⟨rfl, hw1⟩
 have b2 : Below w.heap.size w w1 := by
  rw [hw1]
  exact ((b1.alloc (by simp) _).alloc (by simp; omega) _).alloc (by simp; omega) _
 clear hw1
 have H1 := h.below b2 (Nat.le_refl _)
 have c0 := H1.cell 0 (by omega)
 have c1 := H1.cell 1 (by omega)
 have c2 := H1.cell 2 (by omega)
 have c3 := H1.cell 3 (by omega)
 have c4 := H1.cell 4 (by omega)
 have c5 := H1.cell 5 (by omega)
 have c6 := H1.cell 6 (by omega)
 go_wp2
 go_loop [26] (fun k => ∃ j : Nat, j ≤ i ∧ k = .int .i64 j) (fun k => 7 - (intOf k).toNat)
 case atStart => exact ⟨0, Nat.zero_le _, rfl⟩
 case round =>
  obtain ⟨j, hj, rfl⟩ := hrel
  clear c0 c1 c2 c3 c4 c5 c6
  have hj7 : j < 7 := by omega
  have cj := list_cell w1 a j hj7
  have b3 := b2.alloc (w := w1) b2.size (.cells #[.iface 294 (.pointer (some (a 0))), .iface 294 (.pointer (some (a 1))), .iface 294 (.pointer (some (a 2))), .iface 294 (.pointer (some (a 3))), .iface 294 (.pointer (some (a 4))), .iface 294 (.pointer (some (a 5))), .iface 294 (.pointer (some (a 6)))] 28)
  have H3 := h.below b3 (Nat.le_refl _)
  by_cases e : i = j
  ·subst e
   have hd : hitE i i = true := by simp [hitE]
   go_wp2_with (go_at_call 54; refine (is_list _ a H3 i i hi hj7).mono ?_; rintro e w' ⟨rfl, rfl⟩)
   go_ret2
   exact ⟨rfl, b3⟩
  ·have hd : hitE i j = false := by simp [hitE, e]
   have hlt : j < i := by omega
   clear e
   go_wp2_with (go_at_call 54; refine (is_list _ a H3 i j hi hj7).mono ?_; rintro e w' ⟨rfl, rfl⟩)
   go_round
   case rel => exact ⟨j + 1, by omega, by go_num⟩
   case measure => simp [intOf]; omega

end Go.Proofs.YtgmmfpdekefamaaGreatDoor

namespace Go.Proofs.YtgmmfpdekefamaaGreatDoor
open Go.RowKit
set_option linter.unusedVariables false
set_option maxRecDepth 100000

set_option maxHeartbeats 4000000 in
theorem told_err (w : World) (a : Nat → Addr) (h : Errs w a) (i : Nat) (hi : i < 7) :
  Calls Tryz.prog 11 #[.iface 294 (.pointer (some (a i))), .iface 294 (.pointer (some (a i))), .int .i64 (-1)] w fun e w' => e = .returned (.bool true) ∧ Below w.heap.size w w' := by
 have HD : Hid (∀ w', Below w.heap.size w w' → Calls Tryz.prog 29 #[.iface 294 (.pointer (some (a i)))] w' fun e w'' => e = .returned (.tuple #[.int .i64 ((i : Int) + 1), .int .i64 (-1)]) ∧ Below w.heap.size w w'') := fun w' hb => (code_err w' a (h.below hb (Nat.le_refl _)) i hi).mono fun e w'' ⟨q1, q2⟩ => ⟨q1, hb.trans (q2.mono hb.size)⟩
 clear h
 go_enter Tryz.func11, Tryz.ntmps11
 go_wp2_with fail
 go_at_call 29
 refine (HD.out w (Below.refl _ _)).mono ?_
 rintro e w1 ⟨rfl, hb1⟩
 have HD1 := HD.out w1 hb1
 clear hb1 HD
 go_wp2_with fail
 go_at_call 29
 refine HD1.mono ?_
 rintro e w2 ⟨rfl, hb2⟩
 have HB2 : Hid (Below w.heap.size w w2) := hb2
 clear hb2 HD1
 have hne : ¬ ((i : Int) + 1 = 0) := by omega
 go_wp2_with fail
 go_ret
 exact ⟨rfl, HB2.out⟩

end Go.Proofs.YtgmmfpdekefamaaGreatDoor
