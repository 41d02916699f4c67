/- A map whose keys are pointers: a set of blocks. -/
import Derived.Test.YtbgklfmhmpjboaaDoorTTre
import Derived.LaidEql
import Derived.MapKept
namespace Go.Proofs.YtbgklfmhmpjboaaDoor
open Go.RowKit
set_option linter.unusedVariables false
set_option maxRecDepth 100000

theorem Tryd.infoTree : (Tryd.prog.info? 40).map (fun i => i.size) = some 3 := by kernel_rfl
/-- a set of pointers in memory -/
def PMap (w : World) (M : Nat) (K : List Nat) : Prop := ∃ es clock, w.heap[M]? = some (.map es clock) ∧ es.toList.map (·.key) = K.map (fun b => Value.pointer (some ⟨b, 0, none⟩)) ∧ ∀ e ∈ es.toList, e.val = .agg #[]
/-- blocks of plain cells -/
def Cel (w : World) (b : Nat) : Prop := ∃ cs t, w.heap[b]? = some (.cells cs t (0, 0))
theorem PMap.block {w w' : World} {M : Nat} {K : List Nat} (h : PMap w M K) (hb : w'.heap[M]? = w.heap[M]?) : PMap w' M K := by
  obtain ⟨es, cl, h1, h2⟩ := h
  exact ⟨es, cl, hb.trans h1, h2⟩
theorem PMap.lt {w : World} {M : Nat} {K : List Nat} (h : PMap w M K) : M < w.heap.size := by
  obtain ⟨es, cl, h1, h2⟩ := h
  exact (Array.getElem?_eq_some_iff.1 h1).1

theorem ptr_equalIn {P : Program} {w : World} {t e : TypeId} {i : TypeInfo} {a b : Nat} (hu : P.underlying t = some (.pointer e)) (hi : P.info? e = some i) (hz : i.size ≠ 0) (ha : Cel w a) (hb : Cel w b) (d : Nat) : (Op.equalIn (d + 1) t (.pointer (some ⟨a, 0, none⟩)) (.pointer (some ⟨b, 0, none⟩))).run P w = .ok (decide (a = b)) w := by
  obtain ⟨ca, ta, ha⟩ := ha
  obtain ⟨cb, tb, hb⟩ := hb
  by_cases e : a = b
  · subst e
    simp [Op.equalIn, run_underlying hu, sizeOf, typeInfo, hi, run_sameAddr_same]
  · have hne : (⟨a, 0, none⟩ : Addr) ≠ ⟨b, 0, none⟩ := fun h => e (by cases h; rfl)
    simp [Op.equalIn, run_underlying hu, sizeOf, typeInfo, hi, hz, run_sameAddr_other w hne ha hb, e]
theorem ptr_equal {w : World} {a b : Nat} (ha : Cel w a) (hb : Cel w b) : (Op.equal 29 (.pointer (some ⟨a, 0, none⟩)) (.pointer (some ⟨b, 0, none⟩))).run Tryd.prog w = .ok (decide (a = b)) w := by
  obtain ⟨i, hi, hz⟩ : ∃ i, Tryd.prog.info? 40 = some i ∧ i.size = 3 := by
    have h := Tryd.infoTree
    cases hq : Tryd.prog.info? 40 with
    | none => rw [hq] at h; simp at h
    | some i => rw [hq] at h; exact ⟨i, rfl, by simpa using h⟩
  exact ptr_equalIn Tryd.underlying29 hi (by omega) ha hb 9999
theorem asking {w : World} {b : Nat} (hb : Cel w b) : ∀ (es : List MapEntry) (K : List Nat) (i : Nat), es.map (·.key) = K.map (fun b => Value.pointer (some ⟨b, 0, none⟩)) → (∀ e ∈ es, e.val = .agg #[]) → (∀ k ∈ K, Cel w k) →
    ((b ∉ K ∧ (Instr.findAsking 29 (.pointer (some ⟨b, 0, none⟩)) es i).run Tryd.prog w = .ok none w) ∨ (b ∈ K ∧ ∃ j, K[j]? = some b ∧ (Instr.findAsking 29 (.pointer (some ⟨b, 0, none⟩)) es i).run Tryd.prog w = .ok (some (i + j, .agg #[])) w))
  | [], [], i, _, _, _ => .inl ⟨by simp, by simp [Instr.findAsking]⟩
  | [], k :: K, i, h, _, _ => by simp at h
  | e :: es, [], i, h, _, _ => by simp at h
  | e :: es, k :: K, i, h, hv, hK => by
    simp only [List.map_cons, List.cons.injEq] at h
    obtain ⟨hk, h⟩ := h
    have he := ptr_equal hb (hK k (by simp))
    by_cases hbk : b = k
    · subst hbk
      refine .inr ⟨by simp, 0, rfl, ?_⟩
      rw [Instr.findAsking, hk]
      simp [he, hv e (by simp)]
    · rcases asking hb es K (i + 1) h (fun x hx => hv x (by simp [hx])) (fun x hx => hK x (by simp [hx])) with ⟨h1, h2⟩ | ⟨h1, j, h2, h3⟩
      · refine .inl ⟨by simp [hbk, h1], ?_⟩
        rw [Instr.findAsking, hk]
        simp [he, hbk, h2]
      · refine .inr ⟨by simp [h1], j + 1, by simpa using h2, ?_⟩
        rw [Instr.findAsking, hk]
        simp [he, hbk, h3]
        omega
theorem findPtr {w : World} {b : Nat} (hb : Cel w b) (es : List MapEntry) (K : List Nat) (h : es.map (·.key) = K.map (fun b => Value.pointer (some ⟨b, 0, none⟩))) (hv : ∀ e ∈ es, e.val = .agg #[]) (hK : ∀ k ∈ K, Cel w k) :
    ((b ∉ K ∧ (Instr.findKey 29 (.pointer (some ⟨b, 0, none⟩)) es).run Tryd.prog w = .ok none w) ∨ (b ∈ K ∧ ∃ j, K[j]? = some b ∧ (Instr.findKey 29 (.pointer (some ⟨b, 0, none⟩)) es).run Tryd.prog w = .ok (some (j, .agg #[])) w)) := by
  have hu := Tryd.underlying29
  have ha := asking hb es K 0 h hv hK
  cases es with
  | nil =>
    cases K with
    | nil => exact .inl ⟨by simp, by simp [Instr.findKey, run_underlying hu, Instr.findNow]⟩
    | cons k K => simp at h
  | cons e es =>
    have hn : ∀ d, Instr.findNow (.pointer d) (.pointer (some ⟨b, 0, none⟩)) (e :: es) 0 = none := fun d => by simp [Instr.findNow, Instr.sameNow]
    simp only [Nat.zero_add] at ha
    rcases ha with ⟨h1, h2⟩ | ⟨h1, j, h2, h3⟩
    · exact .inl ⟨h1, by simp [Instr.findKey, run_underlying hu, hn, h2]⟩
    · exact .inr ⟨h1, j, h2, by simp [Instr.findKey, run_underlying hu, hn, h3]⟩
theorem checkPtrIn {P : Program} {w : World} {t e : TypeId} (hu : P.underlying t = some (.pointer e)) (b : Nat) (em : Bool) (n : Nat) : (Instr.checkKey em (n + 1) t (.pointer (some ⟨b, 0, none⟩))).run P w = .ok () w := by
  simp [Instr.checkKey, run_underlying hu]
theorem checkPtr {w : World} (b : Nat) (em : Bool) : (Instr.checkKey em 10000 29 (.pointer (some ⟨b, 0, none⟩))).run Tryd.prog w = .ok () w := checkPtrIn Tryd.underlying29 b em 9999
theorem staysPtr {P : Program} {w : World} (b : Nat) : (Instr.keyThatStays (.pointer (some ⟨b, 0, none⟩)) (.pointer (some ⟨b, 0, none⟩))).run P w = .ok (.pointer (some ⟨b, 0, none⟩)) w := by
  have h : ∀ n, Instr.sameBits (n + 1) (.pointer (some ⟨b, 0, none⟩)) (.pointer (some ⟨b, 0, none⟩)) = true := fun n => by simp [Instr.sameBits]
  have h' : Instr.sameBits 10000 (.pointer (some ⟨b, 0, none⟩)) (.pointer (some ⟨b, 0, none⟩)) = true := h 9999
  rw [Instr.keyThatStays, h']
  simp
theorem PMap.look {w : World} {M b : Nat} {K : List Nat} (h : PMap w M K) (hb : Cel w b) (hK : ∀ k ∈ K, Cel w k) : (Instr.lookup 45 (.map (some M)) (.pointer (some ⟨b, 0, none⟩)) true).run Tryd.prog w = .ok (.tuple #[.agg #[], .bool (decide (b ∈ K))]) w := by
  obtain ⟨es, cl, h1, h2, h3⟩ := h
  have hm := Tryd.underlying45
  rcases findPtr hb es.toList K h2 h3 hK with ⟨g1, g2⟩ | ⟨g1, j, g2, g3⟩
  · simp [Instr.lookup, run_underlying hm, MapKept.run_getObj_map h1, checkPtr, g2, g1]
  · simp [Instr.lookup, run_underlying hm, MapKept.run_getObj_map h1, checkPtr, g3, g1]
theorem heap_put {w : World} {M : Nat} (hlt : M < w.heap.size) (o : Obj) : ({ w with heap := w.heap.setIfInBounds M o } : World).heap[M]? = some o := by simp [hlt]
theorem PMap.put {w : World} {M b : Nat} {K : List Nat} (h : PMap w M K) (hb : Cel w b) (hK : ∀ k ∈ K, Cel w k) : ∃ w' K', (Instr.mapUpdate 45 (.map (some M)) (.pointer (some ⟨b, 0, none⟩)) (.agg #[])).run Tryd.prog w = .ok () w' ∧ PMap w' M K' ∧ (∀ x, x ∈ K' ↔ x ∈ K ∨ x = b) ∧ w.grownBy w' (some M) ∧ w'.heap.size = w.heap.size := by
  obtain ⟨es, cl, h1, h2, h3⟩ := h
  have hm := Tryd.underlying45
  have hlt := (Array.getElem?_eq_some_iff.1 h1).1
  have hg : ∀ o, w.grownBy { w with heap := w.heap.setIfInBounds M o } (some M) := fun o => ⟨rfl, rfl, rfl, by simp, fun k hk hne => by
    have : M ≠ k := fun e => hne (by rw [e])
    simp [this]⟩
  rcases findPtr hb es.toList K h2 h3 hK with ⟨g1, g2⟩ | ⟨g1, j, g2, g3⟩
  · refine ⟨{ w with heap := w.heap.setIfInBounds M (.map (es.push { key := .pointer (some ⟨b, 0, none⟩), val := .agg #[], born := cl }) (cl + 1)) }, K ++ [b], ?_, ⟨_, _, heap_put hlt _, ?_, ?_⟩, fun x => by simp, hg _, by simp⟩
    · simp [Instr.mapUpdate, run_underlying hm, MapKept.run_getObj_map h1, checkPtr, g2, MapKept.run_setObj_map _ h1]
    · simp [h2]
    · intro e he
      simp at he
      rcases he with he | rfl
      · exact h3 e (by simpa using he)
      · rfl
  · have hjl : j < es.size := by
      have := congrArg List.length h2
      simp at this
      have := (List.getElem?_eq_some_iff.1 g2).1
      omega
    have hkey : (es[j]?.map (·.key)) = some (.pointer (some ⟨b, 0, none⟩)) := by
      have : (es.toList.map (·.key))[j]? = (K.map (fun b => Value.pointer (some ⟨b, 0, none⟩)))[j]? := by rw [h2]
      simp [g2] at this
      simpa using this
    refine ⟨{ w with heap := w.heap.setIfInBounds M (.map (es.modify j fun e => { e with key := .pointer (some ⟨b, 0, none⟩), val := .agg #[] }) cl) }, K, ?_, ⟨_, _, heap_put hlt _, ?_, ?_⟩, fun x => ⟨.inl, fun h => h.elim id fun e => e ▸ g1⟩, hg _, by simp⟩
    · simp [Instr.mapUpdate, run_underlying hm, MapKept.run_getObj_map h1, checkPtr, g3, hkey, staysPtr, MapKept.run_setObj_map _ h1]
    · rw [← h2]
      apply List.ext_getElem (by simp)
      intro i hi hi'
      simp only [List.getElem_map, Array.getElem_toList]
      rw [Array.getElem_modify]
      split
      · rename_i e
        subst e
        have : es[j]?.map (·.key) = some (es[j]'hjl).key := by simp [hjl]
        rw [hkey] at this
        exact Option.some.inj this
      · rfl
    · intro e he
      obtain ⟨i, hi, rfl⟩ := List.getElem_of_mem he
      simp only [Array.getElem_toList]
      rw [Array.getElem_modify]
      split
      · rfl
      · exact h3 _ (by simp)

end Go.Proofs.YtbgklfmhmpjboaaDoor
