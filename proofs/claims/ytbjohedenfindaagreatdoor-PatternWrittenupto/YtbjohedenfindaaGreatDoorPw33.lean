/- Texts of the proof, put together: VSml, As, AsCalls. -/
import Derived.Test.YtbjohedenfindaaGreatDoorPw32
import Derived.Test.YtbjohedenfindaaGreatDoorProg
import Derived.WalkKit
import Derived.LaidEql
import Derived.Stop.Asserts
import Derived.RowKitTokens
namespace Go.Proofs.YtbjohedenfindaaGreatDoor
open Go.RowKit
set_option linter.unusedVariables false
set_option maxRecDepth 100000

/-- the numbers so far -/
structure SmI (w0 w : World) (i : Nat) (nv : Value) (ns : List Int) : Prop where
  bel : Below w0.heap.size w0 w
  own : w.ownsRow w0.heap.size 3 1 nv i (ns.map fun z => .int .i64 z)
  len : ns.length = i
  bd : ∀ z ∈ ns, 0 ≤ z ∧ z ≤ 2001 * (i : Int)
theorem SmI.slice {w0 w : World} {i : Nat} {nv : Value} {ns : List Int} (h : SmI w0 w i nv ns) : ∃ a c, nv = .slice a i c := by
  rcases h.own.2 with ⟨rfl, h0⟩ | ⟨g, cap, cur, rfl, _⟩
  · exact ⟨none, 0, by rw [h0]⟩
  · exact ⟨_, _, rfl⟩
theorem SmI.cell {w0 w : World} {i j : Nat} {nv : Value} {ns : List Int} (h : SmI w0 w i nv ns) (hj : j < i) : ∃ g cap, nv = .slice (some ⟨g, 0, none⟩) i cap ∧ w.cell? ⟨g, j, none⟩ = some (.int .i64 (ns.getD j 0)) ∧ 0 ≤ ns.getD j 0 ∧ ns.getD j 0 ≤ 2001 * (i : Int) := by
  obtain ⟨g, cap, rfl, _, _⟩ := h.own.form (by omega)
  have hl := h.len
  have hc := h.own.cells (g := g) rfl j (.int .i64 (ns.getD j 0)) (by simp [hl, hj])
  have hadd : (⟨g, 0, none⟩ : Addr).add j = ⟨g, 0 + j, none⟩ := by unfold Addr.add; split <;> simp_all
  rw [hadd, Nat.zero_add] at hc
  refine ⟨g, cap, rfl, hc, h.bd _ ?_⟩
  rw [List.getD_eq_getElem?_getD, List.getElem?_eq_getElem (by omega)]
  exact List.getElem_mem _

set_option maxHeartbeats 8000000 in
theorem smalltree_row {w : World} {ps : List PartP} {b off c : Nat} (hb : b < w.heap.size) (hn : ps.length ≤ 2000) (hlen : 0 < ps.length) (hsz : ∀ j, j < ps.length → (ps.getD j noPart).kids.length ≤ 1048576) (hc : ∀ j, j < ps.length → ∃ sv kv, PartR w b (off + j * 5) (ps.getD j noPart) sv kv) :
    Calls Tryz.prog 12 #[.slice (some ⟨b, off, none⟩) ps.length c] w fun e w' => (∃ bb : Bool, e = .returned (.bool bb)) ∧ Below w.heap.size w w' := by
  obtain ⟨i1, hj0, hj1, hj2, hj3⟩ := info_parts Tryz.infoInt
  have HP : Hid (∀ j, j < ps.length → ∃ sv kv, PartR w b (off + j * 5) (ps.getD j noPart) sv kv) := hc
  have HZ : Hid (∀ j, j < ps.length → (ps.getD j noPart).kids.length ≤ 1048576) := hsz
  clear hc hsz
  go_enter Tryz.func12, Tryz.ntmps12
  go_wp2
  go_loopw [3, 4] (fun nv iv wr => ∃ (i : Nat) (ns : List Int), i ≤ ps.length ∧ iv = .int .i64 i ∧ Hid (SmI w wr i nv ns)) (fun _ iv _ => ps.length - (intOf iv).toNat)
  case atStart => exact ⟨0, [], Nat.zero_le _, rfl, ⟨Below.refl _ _, ⟨rfl, .inl ⟨rfl, rfl⟩⟩, rfl, by simp⟩⟩
  case round =>
    rename World => wo
    obtain ⟨i, ns, hi, rfl, HI⟩ := hrel
    obtain ⟨na, nc, rfl⟩ := HI.out.slice
    by_cases hlt : i < ps.length
    · obtain ⟨sv, kv, hp⟩ := HP.out i hlt
      have hbw := HI.out.bel
      have hszw := hbw.size
      obtain ⟨c0, c1, c2, c3, c4, hs, hk⟩ := hp.below hb hbw
      have hzk := HZ.out i hlt
      obtain ⟨ka, kc, rfl, hk2⟩ := hk
      generalize ps.getD i noPart = p at *
      clear hp hs c0 c1 c2 c3
      go_wp2
      go_loopw [5, 6] (fun sv kx wr2 => ∃ (k : Nat) (s : Int), k ≤ p.kids.length ∧ kx = .int .i64 k ∧ sv = .int .i64 s ∧ 0 ≤ s ∧ s ≤ 2001 * ((i : Int) + 1) ∧ wr2 = wo) (fun _ kx _ => p.kids.length - (intOf kx).toNat)
      case atStart => exact ⟨0, 1, Nat.zero_le _, rfl, rfl, by omega, by omega, rfl⟩
      case round =>
        obtain ⟨k, s, hk, rfl, rfl, hs0, hs1, hwe⟩ := hrel
        subst hwe
        by_cases hkt : k < p.kids.length
        · obtain ⟨kg, koff, rfl, hkg, hkc⟩ : ∃ kg koff, ka = some ⟨kg, koff, none⟩ ∧ kg < wr.heap.size ∧ ∀ j, j < p.kids.length → wr.cell? ⟨kg, koff + j, none⟩ = some (.int .i64 (p.kids.getD j 0)) := by
            rcases hk2 with h | h
            · rw [h] at hkt; simp at hkt
            · exact h
          have ck := hkc k hkt
          generalize p.kids.getD k 0 = x at *
          clear hkc hk2
          by_cases hx : x < 0 ∨ (i : Int) ≤ x ∨ 2000 < s
          · have hcs : decide (x ≥ 0) = false ∨ (decide (x ≥ 0) = true ∧ decide (x < (i : Int)) = false) ∨ (decide (x ≥ 0) = true ∧ decide (x < (i : Int)) = true ∧ decide (s ≤ 2000) = false) := by
              simp only [decide_eq_true_iff, decide_eq_false_iff_not]
              omega
            clear hx
            rcases hcs with g1 | ⟨g1, g2⟩ | ⟨g1, g2, g3⟩
            all_goals
              go_wp2
              go_roundw
              case rel => exact ⟨k + 1, s, by omega, by go_num, rfl, hs0, hs1, by first | rfl | trivial⟩
              case measure => simp [intOf]; omega
          · have g1 : decide (x ≥ 0) = true := by simp; omega
            have g2 : decide (x < (i : Int)) = true := by simp; omega
            have g3 : decide (s ≤ 2000) = true := by simp; omega
            obtain ⟨xn, rfl⟩ : ∃ n : Nat, x = (n : Int) := ⟨x.toNat, by omega⟩
            have hxn : xn < i := by omega
            obtain ⟨ng, ncap, e, cn, z0, z1⟩ := HI.out.cell hxn
            simp only [Value.slice.injEq, true_and] at e
            obtain ⟨rfl, rfl⟩ := e
            generalize ns.getD xn 0 = z at *
            have hs2 : s ≤ 2000 := by omega
            clear hx
            go_wp2
            go_roundw
            case rel => exact ⟨k + 1, s + z, by omega, by go_num, by first | rfl | go_num, by omega, by omega, by first | rfl | trivial⟩
            case measure => simp [intOf]; omega
        · obtain rfl : k = p.kids.length := by omega
          have HFin : Hid (∀ g9 cap9 w9 ob, w9.ownsRow w.heap.size 3 1 (.slice (some ⟨g9, 0, none⟩) (i + 1) cap9) (i + 1) ((ns.map fun z => Value.int .i64 z) ++ [.int .i64 s]) → (wr.alloc ob).grownBy w9 (Value.slice na i nc).ownBlock → SmI w w9 (i + 1) (.slice (some ⟨g9, 0, none⟩) (i + 1) cap9) (ns ++ [s])) := fun g9 cap9 w9 ob h1 h2 => by
            have hs9 : wr.heap.size + 1 ≤ w9.heap.size := by have := h2.size; simpa using this
            refine ⟨⟨h2.os.trans hbw.os, by simpa using h2.tape.trans hbw.tape, h2.output.trans hbw.output, by omega, fun b hb => ?_⟩, by simpa using h1, by simp [HI.out.len], fun z hz => ?_⟩
            · rw [h2.block b (by simp; omega) (fun e => by have := (HI.out.own.lt b e.symm).1; omega), Below.heap_alloc wr ob b (by omega)]
              exact hbw.block b hb
            · rcases List.mem_append.1 hz with hz | hz
              · have := HI.out.bd z hz; push_cast; omega
              · simp at hz; subst hz; push_cast; omega
          have hown2 := HI.out.own
          go_wp2_with (at_builtin; refine wpList_append_lies _ rfl _ _ 34 rfl w.heap.size 3 i1 (.int .i64 0) 1 8 Tryz.underlying34 hj0 hj1 hj2 hj3 rfl (by decide) (.slice na i nc) i (ns.map fun z => .int .i64 z) rfl (World.ownsRow.alloc hown2 _) ⟨wr.heap.size, 0, none⟩ 1 1 [.int .i64 s] rfl rfl (cell_one_new wr _ _) (by intro x hx; simp at hx; subst hx; rfl) (by omega) (by unfold maxLen; omega) (by omega) (by simp; omega) (wr.heap.size + 1) (by simp) ?_)
          intro g9 cap9 w9 hown9 hg9 hat9 hlt9
          have B1 : Hid (SmI w w9 (i + 1) (.slice (some ⟨g9, 0, none⟩) (i + 1) cap9) (ns ++ [s])) := HFin.out g9 cap9 w9 _ hown9 hg9
          clear hown9 hg9 hat9 hlt9 HFin hown2
          go_wp2
          go_roundw
          case rel => exact ⟨i + 1, _, by omega, by go_num, B1⟩
          case measure => simp [intOf]; omega
    · obtain rfl : i = ps.length := by omega
      have hbw := HI.out.bel
      obtain ⟨ng, ncap, e, cn, z0, z1⟩ := HI.out.cell (show ps.length - 1 < ps.length by omega)
      simp only [Value.slice.injEq, true_and] at e
      obtain ⟨rfl, rfl⟩ := e
      generalize ns.getD (ps.length - 1) 0 = z at *
      have hne0 : ((ps.length : Int) == 0) = false := by rw [beq_eq_false_iff_ne]; omega
      have hsub : (ps.length : Int) - 1 = ((ps.length - 1 : Nat) : Int) := by omega
      have hnl : ps.length - 1 < ps.length := by omega
      clear HI
      go_wp2
      go_ret
      exact ⟨⟨_, rfl⟩, hbw⟩

end Go.Proofs.YtbjohedenfindaaGreatDoor

namespace Go.Proofs.YtbjohedenfindaaGreatDoor
open Go.RowKit Go.Extern.Stop Go.Stop Go.Extern
set_option linter.unusedVariables false
set_option maxRecDepth 100000

theorem Tryz.valueOfP (t : Addr) (w : World) : (ReflectliteValue.unpack (.iface 95 (.pointer (some t)))).run Tryz.prog w
    = .ok (.agg #[.pointer (some ⟨16, 95, none⟩), .pointer (some ⟨w.heap.size, 0, none⟩), .int .u64 150]) (w.alloc (.cells #[.pointer (some t)] 95)) := by kernel_rfl
theorem Tryz.typeP (a : Addr) (w : World) : (ReflectliteValue.methodAny (ReflectliteValue.valueError "reflectlite.Value.Type" 0) (fun t _ _ _ => ReflectliteType.toType t) #[.agg #[.pointer (some ⟨16, 95, none⟩), .pointer (some a), .int .u64 150]]).run Tryz.prog w
    = .ok (.iface 156 (.agg #[.pointer (some ⟨16, 95, none⟩)])) w := by kernel_rfl
theorem Tryz.methodKind (h : Value) (w : World) : (Go.method 390 156 (.agg #[h]) "Kind").run Tryz.prog w = .ok (228, h) w := by kernel_rfl
theorem Tryz.kindP (w : World) : ((ReflectliteType.abiMethod fun t => (fun a : Nat => Value.int IntKind.u8 (a : Int)) <$> Rtype.kind t) #[.pointer (some ⟨16, 95, none⟩)]).run Tryz.prog w = .ok (.int .u8 22) w := by kernel_rfl
theorem Tryz.kindF (w : World) : ((ReflectliteType.abiMethod fun t => (fun a : Nat => Value.int IntKind.u8 (a : Int)) <$> Rtype.kind t) #[.pointer (some ⟨16, 49, none⟩)]).run Tryz.prog w = .ok (.int .u8 22) w := by kernel_rfl

theorem rlm (z : Sem Value) (f : TypeId → Addr → Nat → Nat → Sem Value) (v : Value) :
    ReflectliteValue.method z f #[v] = (do match ← ReflectliteValue.parts v with | none => z | some (t, a, fl) => f t a fl (fl % 32)) := rfl
theorem Tryz.partsP (a : Addr) (w : World) : (ReflectliteValue.parts (.agg #[.pointer (some ⟨16, 95, none⟩), .pointer (some a), .int .u64 150])).run Tryz.prog w = .ok (some (95, a, 150)) w := by kernel_rfl
theorem Tryz.isNilP (a p : Addr) (W : World) (ha : W.cell? a = some (.pointer (some p))) :
    (ReflectliteValue.method (ReflectliteValue.valueError "reflectlite.Value.IsNil" 0) ReflectliteValue.isNil #[.agg #[.pointer (some ⟨16, 95, none⟩), .pointer (some a), .int .u64 150]]).run Tryz.prog W = .ok (.bool false) W := by
  rw [rlm]
  simp only [Sem.run_bind, Tryz.partsP, Result.andThen]
  simp [ReflectliteValue.isNil, loadVar, isAgg, underlying, Tryz.underlying95, ha, Result.andThen]

theorem Tryz.methodElem (h : Value) (w : World) : (Go.method 390 156 (.agg #[h]) "Elem").run Tryz.prog w = .ok (240, .agg #[h]) w := by kernel_rfl
theorem Tryz.methodImplements (h : Value) (w : World) : (Go.method 390 156 (.agg #[h]) "Implements").run Tryz.prog w = .ok (241, .agg #[h]) w := by kernel_rfl
theorem Tryz.methodAssignableTo (h : Value) (w : World) : (Go.method 390 156 (.agg #[h]) "AssignableTo").run Tryz.prog w = .ok (238, .agg #[h]) w := by kernel_rfl
theorem Tryz.elemP (w : World) : (ReflectliteType.method ReflectliteType.elem #[.agg #[.pointer (some ⟨16, 95, none⟩)]]).run Tryz.prog w = .ok (.iface 156 (.agg #[.pointer (some ⟨16, 49, none⟩)])) w := by kernel_rfl
theorem Tryz.implementsF (w : World) : (ReflectliteType.relation "Implements" ReflectliteType.implements_ #[.agg #[.pointer (some ⟨16, 49, none⟩)], .iface 156 (.agg #[.pointer (some ⟨16, 24, none⟩)])]).run Tryz.prog w = .ok (.bool true) w := by kernel_rfl
theorem Tryz.typeOfE (v : Value) (w : World) : (ReflectliteType.typeOf #[.iface 259 v]).run Tryz.prog w = .ok (.iface 156 (.agg #[.pointer (some ⟨16, 259, none⟩)])) w := by kernel_rfl
theorem Tryz.assignableE (w : World) : (ReflectliteType.relation "AssignableTo" ReflectliteType.assignableTo #[.agg #[.pointer (some ⟨16, 259, none⟩)], .iface 156 (.agg #[.pointer (some ⟨16, 49, none⟩)])]).run Tryz.prog w = .ok (.bool false) w := by kernel_rfl
theorem Tryz.noAsE (v : Value) (xT : TypeId) (w : World) : (Instr.typeAssert (.iface 259 v) xT 160 true).run Tryz.prog w = .ok (.tuple #[.nilIface, .bool false]) w := run_typeAssert_lacksB Tryz.underlying160 (by kernel_rfl) (by kernel_rfl) v xT w
theorem Tryz.noUnwrapA (v : Value) (xT : TypeId) (w : World) : (Instr.typeAssert (.iface 259 v) xT 163 true).run Tryz.prog w = .ok (.tuple #[.nilIface, .bool false]) w := run_typeAssert_lacksB Tryz.underlying163 (by kernel_rfl) (by kernel_rfl) v xT w
theorem Tryz.noUnwrapsA (v : Value) (xT : TypeId) (w : World) : (Instr.typeAssert (.iface 259 v) xT 165 true).run Tryz.prog w = .ok (.tuple #[.nilIface, .bool false]) w := run_typeAssert_lacksB Tryz.underlying165 (by kernel_rfl) (by kernel_rfl) v xT w

end Go.Proofs.YtbjohedenfindaaGreatDoor

namespace Go.Proofs.YtbjohedenfindaaGreatDoor
open Go.RowKit Go.Extern.Stop Go.Stop Go.Extern
set_option linter.unusedVariables false
set_option maxRecDepth 100000

theorem lt_of_cell {w : World} {a : Addr} {v : Value} (h : w.cell? a = some v) : a.block < w.heap.size := by
  rcases Nat.lt_or_ge a.block w.heap.size with h' | h'
  · exact h'
  · simp [World.cell?, Array.getElem?_eq_none h'] at h

set_option maxHeartbeats 4000000 in
theorem as_miss (e t : Addr) (old : Value) (w : World) (hg : w.cell? ⟨7, 0, none⟩ = some (.iface 156 (.agg #[.pointer (some ⟨16, 24, none⟩)]))) :
    Calls Tryz.prog 47 #[.iface 259 (.pointer (some e)), .iface 95 (.pointer (some t))] w fun ev w' => ev = .returned (.bool false) ∧ w' = ((w.alloc (.cells #[.pointer (some t)] 95)).alloc (.cells #[.pointer (some ⟨16, 95, none⟩), .pointer (some ⟨w.heap.size, 0, none⟩), .int .u64 150] 130)).alloc (.cells #[.pointer (some ⟨16, 95, none⟩), .pointer (some ⟨w.heap.size, 0, none⟩), .int .u64 150] 130) := by
  have h6 := @run_callFunc_extern Tryz.prog 76 _ (fun args => ReflectliteValue.unpack (args.getD 0 (.tuple #[]))) Tryz.func76 (by kernel_rfl) (by kernel_rfl) (by kernel_rfl) (by kernel_rfl)
  have h7 := @run_callFunc_extern Tryz.prog 77 _ (ReflectliteValue.methodAny (ReflectliteValue.valueError "reflectlite.Value.Type" 0) (fun t _ _ _ => ReflectliteType.toType t)) Tryz.func77 (by kernel_rfl) (by kernel_rfl) (by kernel_rfl) (by kernel_rfl)
  have h8 := @run_callFunc_extern Tryz.prog 78 _ (ReflectliteValue.method (ReflectliteValue.valueError "reflectlite.Value.IsNil" 0) ReflectliteValue.isNil) Tryz.func78 (by kernel_rfl) (by kernel_rfl) (by kernel_rfl) (by kernel_rfl)
  have h27 := @run_callFunc_extern Tryz.prog 228 _ (ReflectliteType.abiMethod fun t => do pure (.int .u8 (← Rtype.kind t))) Tryz.func228 (by kernel_rfl) (by kernel_rfl) (by kernel_rfl) (by kernel_rfl)
  have h37 := @run_callFunc_extern Tryz.prog 240 _ (ReflectliteType.method ReflectliteType.elem) Tryz.func240 (by kernel_rfl) (by kernel_rfl) (by kernel_rfl) (by kernel_rfl)
  have h38 := @run_callFunc_extern Tryz.prog 241 _ (ReflectliteType.relation "Implements" ReflectliteType.implements_) Tryz.func241 (by kernel_rfl) (by kernel_rfl) (by kernel_rfl) (by kernel_rfl)
  have h10 := @run_callFunc_extern Tryz.prog 80 _ ReflectliteType.typeOf Tryz.func80 (by kernel_rfl) (by kernel_rfl) (by kernel_rfl) (by kernel_rfl)
  have h35 := @run_callFunc_extern Tryz.prog 238 _ (ReflectliteType.relation "AssignableTo" ReflectliteType.assignableTo) Tryz.func238 (by kernel_rfl) (by kernel_rfl) (by kernel_rfl) (by kernel_rfl)
  have tO := Tryz.typeOfE
  have mA := Tryz.methodAssignableTo
  have a25 := Tryz.assignableE
  have f6 := Tryz.valueOfP
  have f7 := Tryz.typeP
  have mK := Tryz.methodKind
  have mE := Tryz.methodElem
  have mI := Tryz.methodImplements
  have k27 := Tryz.kindP
  have k25 := Tryz.kindF
  have e27 := Tryz.elemP
  have i25 := Tryz.implementsF
  have nA := Tryz.noAsE
  have uA := Tryz.noUnwrapA
  have usA := Tryz.noUnwrapsA
  have n8 := Tryz.isNilP ⟨w.heap.size, 0, none⟩ t ((w.alloc (.cells #[.pointer (some t)] 95)).alloc (.cells #[.pointer (some ⟨16, 95, none⟩), .pointer (some ⟨w.heap.size, 0, none⟩), .int .u64 150] 130)) (by simp)
  have hlt : 7 < w.heap.size := lt_of_cell hg
  have hg2 : ((w.alloc (.cells #[.pointer (some t)] 95)).alloc (.cells #[.pointer (some ⟨16, 95, none⟩), .pointer (some ⟨w.heap.size, 0, none⟩), .int .u64 150] 130)).cell? ⟨7, 0, none⟩ = some (.iface 156 (.agg #[.pointer (some ⟨16, 24, none⟩)])) := by
    rw [World.cell?_alloc_lt _ _ ⟨7, 0, none⟩ (by simp; omega), World.cell?_alloc_lt _ _ ⟨7, 0, none⟩ hlt]; exact hg
  go_enter Tryz.func47, Tryz.ntmps47
  go_wp2
  refine wp_loop_rounds 1 ?_
  rw [rounds_succ]
  go_wp2
  go_ret
  exact ⟨rfl, rfl⟩
end Go.Proofs.YtbjohedenfindaaGreatDoor
