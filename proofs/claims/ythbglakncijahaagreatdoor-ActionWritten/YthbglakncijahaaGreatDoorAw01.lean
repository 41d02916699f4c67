/- Texts of the proof, put together: PShf, AExp, AMem. -/
import Derived.Shelf.Strings.Builder1
import Derived.Shelf.Strings.Builder2
import Derived.Shelf.Strconv.Itoa0
import Derived.Shelf.Strconv.Itoa1
import Derived.Shelf.LaysM
import Derived.Shelf.Strconv.Itoa2
import Derived.Shelf.Strconv.Itoa3
import Derived.Shelf.Strconv.Itoa4
import Derived.Shelf.Unicode.ValidAny
import Derived.Test.YthbglakncijahaaGreatDoorProg
import Derived.WalkKit
import Derived.WalkSpells
import Derived.WalkLawsBesides
import Derived.Lib.OthersKept
import Derived.BigQuiet
import Derived.Deep.QuietTactic
import Derived.Deep.AppendLies
namespace Go.Proofs
open Go.Shelf
def Tryz.laysValid_ren : Go.Shelf.Ren := ⟨fun | 196 => 92 | 259 => 151 | n => n, fun | 9 => 9 | 4 => 4 | 3 => 3 | 5 => 5 | 12 => 12 | 119 => 226 | 0 => 0 | 46 => 230 | 139 => 229 | 138 => 228 | 53 => 261 | n => n, fun | 3 => 8 | 4 => 9 | n => n⟩
theorem Tryz.laysValid : Go.Proofs.Lays.n196 Tryz.prog Tryz.laysValid_ren := {
  mixed := by kernel_rfl
  f196 := Tryz.func92.trans (congrArg some (by kernel_rfl))
  f259 := Tryz.func151.trans (congrArg some (by kernel_rfl))
  t0 := Tryz.underlying0
  a0 := Tryz.isAgg0
  z0 := Tryz.sizeOf0
  v0 := Tryz.zeroValue0
  t3 := Tryz.underlying3
  a3 := Tryz.isAgg3
  z3 := Tryz.sizeOf3
  v3 := Tryz.zeroValue3
  t4 := Tryz.underlying4
  a4 := Tryz.isAgg4
  z4 := Tryz.sizeOf4
  v4 := Tryz.zeroValue4
  t5 := Tryz.underlying5
  a5 := Tryz.isAgg5
  z5 := Tryz.sizeOf5
  v5 := Tryz.zeroValue5
  t9 := Tryz.underlying9
  a9 := Tryz.isAgg9
  z9 := Tryz.sizeOf9
  v9 := Tryz.zeroValue9
  t12 := Tryz.underlying12
  a12 := Tryz.isAgg12
  z12 := Tryz.sizeOf12
  v12 := Tryz.zeroValue12
  t46 := Tryz.underlying230
  a46 := Tryz.isAgg230
  z46 := Tryz.sizeOf230
  v46 := Tryz.zeroValue230
  t53 := Tryz.underlying261
  a53 := Tryz.isAgg261
  z53 := Tryz.sizeOf261
  v53 := Tryz.zeroValue261
  t119 := Tryz.underlying226
  a119 := Tryz.isAgg226
  z119 := Tryz.sizeOf226
  t138 := Tryz.underlying228
  a138 := Tryz.isAgg228
  z138 := Tryz.sizeOf228
  v138 := Tryz.zeroValue228
  t139 := Tryz.underlying229
  a139 := Tryz.isAgg229
  z139 := Tryz.sizeOf229
  v139 := Tryz.zeroValue229
  g3 := by kernel_rfl
  g4 := by kernel_rfl }
def Tryz.lays165_ren : Go.Shelf.Ren := ⟨fun | 165 => 96 | 240 => 155 | 241 => 156 | 276 => 177 | 277 => 178 | n => n, fun | 70 => 171 | 3 => 3 | 0 => 0 | 4 => 4 | 9 => 9 | 20 => 20 | 72 => 173 | 37 => 141 | 164 => 180 | 5 => 5 | n => n, fun | n => n⟩
theorem Tryz.lays165 : Go.Proofs.Lays.n165 Tryz.prog Tryz.lays165_ren := {
  mixed := by kernel_rfl
  f165 := Tryz.func96.trans (congrArg some (by kernel_rfl))
  f240 := Tryz.func155.trans (congrArg some (by kernel_rfl))
  f241 := Tryz.func156.trans (congrArg some (by kernel_rfl))
  f276 := Tryz.func177.trans (congrArg some (by kernel_rfl))
  f277 := Tryz.func178.trans (congrArg some (by kernel_rfl))
  t0 := Tryz.underlying0
  a0 := Tryz.isAgg0
  z0 := Tryz.sizeOf0
  v0 := Tryz.zeroValue0
  t3 := Tryz.underlying3
  a3 := Tryz.isAgg3
  z3 := Tryz.sizeOf3
  v3 := Tryz.zeroValue3
  t4 := Tryz.underlying4
  a4 := Tryz.isAgg4
  z4 := Tryz.sizeOf4
  v4 := Tryz.zeroValue4
  t9 := Tryz.underlying9
  a9 := Tryz.isAgg9
  z9 := Tryz.sizeOf9
  v9 := Tryz.zeroValue9
  t20 := Tryz.underlying20
  a20 := Tryz.isAgg20
  z20 := Tryz.sizeOf20
  v20 := Tryz.zeroValue20
  t37 := Tryz.underlying141
  a37 := Tryz.isAgg141
  z37 := Tryz.sizeOf141
  v37 := Tryz.zeroValue141
  t70 := Tryz.underlying171
  a70 := Tryz.isAgg171
  z70 := Tryz.sizeOf171
  v70 := Tryz.zeroValue171
  t72 := Tryz.underlying173
  a72 := Tryz.isAgg173
  z72 := Tryz.sizeOf173
  v72 := Tryz.zeroValue173
  t164 := Tryz.underlying180
  a164 := Tryz.isAgg180
  z164 := Tryz.sizeOf180
  v164 := Tryz.zeroValue180 }
theorem Tryz.Builder_Extra_165 : Builder.Extra Tryz.prog Tryz.lays165_ren := {
  sizeBuilder := by kernel_rfl
  liesBuilder := by kernel_rfl
  t5 := Tryz.underlying5
  a5 := Tryz.isAgg5
  z5 := Tryz.sizeOf5
  v5 := Tryz.zeroValue5
  infoByte := by kernel_rfl
  cellsByte := by kernel_rfl
  sizeByte := by kernel_rfl
  neB5 := by decide }
def Tryz.laysM173_ren : Go.Shelf.Ren := ⟨fun | 173 => 99 | 246 => 157 | 283 => 179 | 284 => 180 | 285 => 181 | 286 => 182 | 129 => 191 | 317 => 190 | 318 => 192 | 319 => 193 | 320 => 194 | 337 => 202 | 338 => 203 | n => n, fun | 2 => 2 | 3 => 3 | 9 => 9 | 4 => 4 | 171 => 265 | 0 => 0 | 53 => 261 | 37 => 141 | 5 => 5 | 173 => 268 | 212 => 274 | 51 => 275 | 20 => 20 | 213 => 276 | 46 => 230 | 232 => 292 | 233 => 293 | n => n, fun | 17 => 11 | 18 => 14 | 19 => 15 | n => n⟩
theorem Tryz.laysM173 : Go.Proofs.LaysM.n173 Tryz.prog Tryz.laysM173_ren := {
  mixed := by kernel_rfl
  f129 := Tryz.func191.trans (congrArg some (by kernel_rfl))
  f173 := Tryz.func99.trans (congrArg some (by kernel_rfl))
  f246 := Tryz.func157.trans (congrArg some (by kernel_rfl))
  f283 := Tryz.func179.trans (congrArg some (by kernel_rfl))
  f284 := Tryz.func180.trans (congrArg some (by kernel_rfl))
  f285 := Tryz.func181.trans (congrArg some (by kernel_rfl))
  f286 := Tryz.func182.trans (congrArg some (by kernel_rfl))
  f317 := Tryz.func190.trans (congrArg some (by kernel_rfl))
  f318 := Tryz.func192.trans (congrArg some (by kernel_rfl))
  f319 := Tryz.func193.trans (congrArg some (by kernel_rfl))
  f320 := Tryz.func194.trans (congrArg some (by kernel_rfl))
  f337 := Tryz.func202.trans (congrArg some (by kernel_rfl))
  f338 := Tryz.func203.trans (congrArg some (by kernel_rfl))
  t0 := Tryz.underlying0
  a0 := Tryz.isAgg0
  z0 := Tryz.sizeOf0
  v0 := Tryz.zeroValue0
  t2 := Tryz.underlying2
  a2 := Tryz.isAgg2
  z2 := Tryz.sizeOf2
  v2 := Tryz.zeroValue2
  t3 := Tryz.underlying3
  a3 := Tryz.isAgg3
  z3 := Tryz.sizeOf3
  v3 := Tryz.zeroValue3
  t4 := Tryz.underlying4
  a4 := Tryz.isAgg4
  z4 := Tryz.sizeOf4
  v4 := Tryz.zeroValue4
  t5 := Tryz.underlying5
  a5 := Tryz.isAgg5
  z5 := Tryz.sizeOf5
  v5 := Tryz.zeroValue5
  t9 := Tryz.underlying9
  a9 := Tryz.isAgg9
  z9 := Tryz.sizeOf9
  v9 := Tryz.zeroValue9
  t20 := Tryz.underlying20
  a20 := Tryz.isAgg20
  z20 := Tryz.sizeOf20
  v20 := Tryz.zeroValue20
  t37 := Tryz.underlying141
  a37 := Tryz.isAgg141
  z37 := Tryz.sizeOf141
  v37 := Tryz.zeroValue141
  t46 := Tryz.underlying230
  a46 := Tryz.isAgg230
  z46 := Tryz.sizeOf230
  v46 := Tryz.zeroValue230
  t51 := Tryz.underlying275
  a51 := Tryz.isAgg275
  z51 := Tryz.sizeOf275
  v51 := Tryz.zeroValue275
  t53 := Tryz.underlying261
  a53 := Tryz.isAgg261
  z53 := Tryz.sizeOf261
  v53 := Tryz.zeroValue261
  t171 := Tryz.underlying265
  a171 := Tryz.isAgg265
  z171 := Tryz.sizeOf265
  v171 := Tryz.zeroValue265
  t173 := Tryz.underlying268
  a173 := Tryz.isAgg268
  z173 := Tryz.sizeOf268
  v173 := Tryz.zeroValue268
  t212 := Tryz.underlying274
  a212 := Tryz.isAgg274
  z212 := Tryz.sizeOf274
  v212 := Tryz.zeroValue274
  t213 := Tryz.underlying276
  a213 := Tryz.isAgg276
  z213 := Tryz.sizeOf276
  t232 := Tryz.underlying292
  a232 := Tryz.isAgg292
  z232 := Tryz.sizeOf292
  v232 := Tryz.zeroValue292
  t233 := Tryz.underlying293
  a233 := Tryz.isAgg293
  z233 := Tryz.sizeOf293
  v233 := Tryz.zeroValue293
  g17 := by kernel_rfl
  g18 := by kernel_rfl
  g19 := by kernel_rfl
  i0 := by kernel_rfl
  i2 := by kernel_rfl
  i3 := by kernel_rfl
  i4 := by kernel_rfl
  i5 := by kernel_rfl
  i9 := by kernel_rfl
  i20 := by kernel_rfl
  i37 := by kernel_rfl
  i46 := by kernel_rfl
  i51 := by kernel_rfl
  i53 := by kernel_rfl
  i171 := by kernel_rfl
  i173 := by kernel_rfl
  i212 := by kernel_rfl
  i232 := by kernel_rfl
  i233 := by kernel_rfl
  m17 := by kernel_rfl
  m18 := by kernel_rfl
  m19 := by kernel_rfl }
end Go.Proofs

namespace Go.Proofs.YthbglakncijahaaGreatDoor
open Go.RowKit
set_option linter.unusedVariables false
set_option maxRecDepth 100000

/-- an expression; is: it is no nil -/
structure Ex where
  is : Bool
  kind : Int
  num : Int
  text : ByteArray
  kids : List Ex
def nilE : Ex := ⟨false, 0, 0, ByteArray.empty, []⟩
theorem Ex.ind {P : Ex → Prop} (h : ∀ t : Ex, (∀ k ∈ t.kids, P k) → P t) : ∀ t, P t := fun t => by
  match t with
  | ⟨i, p, k, x, ks⟩ => exact h _ fun k hk => Ex.ind h k
/-- how many expressions there are in one -/
def wtE (t : Ex) : Nat := match t with
  | ⟨_, _, _, _, ks⟩ => 1 + (ks.map wtE).sum
def wtL (ks : List Ex) : Nat := (ks.map wtE).sum
theorem wtE_eq (t : Ex) : wtE t = 1 + wtL t.kids := by obtain ⟨i, p, k, x, ks⟩ := t; rw [wtE]; rfl
theorem wtL_append (a b : List Ex) : wtL (a ++ b) = wtL a + wtL b := by simp [wtL]
theorem wtL_one (t : Ex) : wtL [t] = wtE t := by simp [wtL]
theorem wtE_pos (t : Ex) : 1 ≤ wtE t := by rw [wtE_eq]; omega
theorem wtL_len : ∀ l : List Ex, l.length ≤ wtL l
  | [] => by simp
  | t :: l => by
    have h1 := wtL_len l
    have h2 := wtE_pos t
    have e := wtL_append [t] l
    rw [wtL_one] at e
    rw [show t :: l = [t] ++ l from rfl, e]
    simp
    omega
theorem wtL_mem : ∀ (l : List Ex) (t : Ex), t ∈ l → wtE t ≤ wtL l
  | [], t, h => by simp at h
  | x :: l, t, h => by
    have e := wtL_append [x] l
    rw [wtL_one] at e
    rw [show x :: l = [x] ++ l from rfl, e]
    rcases List.mem_cons.1 h with rfl | h
    · omega
    · have := wtL_mem l t h; omega

def KidsE (P : Value → Ex → Prop) (ok : Nat → Prop) (w : World) (v : Value) (l : List Ex) : Prop :=
  (l = [] ∧ ∃ a c, v = .slice a 0 c) ∨ ∃ g off c, v = .slice (some ⟨g, off, none⟩) l.length c ∧ g < w.heap.size ∧ ok g ∧ ∀ j, j < l.length → ∃ u, w.cell? ⟨g, off + j, none⟩ = some u ∧ P u (l.getD j nilE)
/-- an expression in memory, all of it in blocks that ok says -/
def IsEx (ok : Nat → Prop) : Nat → World → Value → Ex → Prop
  | 0, _, _, _ => False
  | n + 1, w, v, t => (t = nilE ∧ v = .pointer none) ∨ (t.is = true ∧ ∃ b kv, v = .pointer (some ⟨b, 0, none⟩) ∧ ok b ∧ w.heap[b]? = some (.cells #[.int .i64 t.kind, .int .i64 t.num, .string t.text, kv] 64 (0, 0)) ∧ KidsE (IsEx ok n w) ok w kv t.kids)
def Expr (ok : Nat → Prop) (w : World) (v : Value) (t : Ex) : Prop := ∃ n, IsEx ok n w v t

theorem KidsE.slice {P : Value → Ex → Prop} {ok : Nat → Prop} {w : World} {v : Value} {l : List Ex} (h : KidsE P ok w v l) : ∃ a c, v = .slice a l.length c := by
  rcases h with ⟨rfl, a, c, h⟩ | ⟨g, off, c, h, _⟩
  · exact ⟨a, c, h⟩
  · exact ⟨_, c, h⟩
theorem KidsE.at {P : Value → Ex → Prop} {ok : Nat → Prop} {w : World} {a : Option Addr} {n c : Nat} {l : List Ex} (h : KidsE P ok w (.slice a n c) l) {k : Nat} (hk : k < l.length) : ∃ b off u, a = some ⟨b, off, none⟩ ∧ b < w.heap.size ∧ w.cell? ⟨b, off + k, none⟩ = some u ∧ P u (l.getD k nilE) := by
  rcases h with ⟨rfl, _⟩ | ⟨g, off, c', h1, h2, _, h3⟩
  · simp at hk
  · simp only [Value.slice.injEq] at h1
    obtain ⟨rfl, rfl, rfl⟩ := h1
    obtain ⟨u, h4, h5⟩ := h3 k hk
    exact ⟨g, off, u, rfl, h2, h4, h5⟩
theorem KidsE.moved {P Q : Value → Ex → Prop} {ok ok' : Nat → Prop} {w w' : World} {v : Value} {l : List Ex} (h : KidsE P ok w v l) (hs : w.heap.size ≤ w'.heap.size) (hk : ∀ g, g < w.heap.size → ok g → ok' g ∧ w'.heap[g]? = w.heap[g]?) (hP : ∀ u o, o ∈ l → P u o → Q u o) : KidsE Q ok' w' v l := by
  rcases h with h | ⟨b, off, c, h1, h2, h3, h4⟩
  · exact Or.inl h
  · obtain ⟨e1, e2⟩ := hk b h2 h3
    refine Or.inr ⟨b, off, c, h1, Nat.lt_of_lt_of_le h2 hs, e1, fun j hj => ?_⟩
    obtain ⟨u, hu, hp⟩ := h4 j hj
    refine ⟨u, (World.cell?_of_block (a := ⟨b, off + j, none⟩) e2).trans hu, hP u _ ?_ hp⟩
    rw [List.getD_eq_getElem?_getD, List.getElem?_eq_getElem hj]
    exact List.getElem_mem hj
theorem IsEx.moved {ok ok' : Nat → Prop} {w w' : World} (hs : w.heap.size ≤ w'.heap.size) (hk : ∀ b, b < w.heap.size → ok b → ok' b ∧ w'.heap[b]? = w.heap[b]?) : ∀ (n : Nat) {v : Value} {t : Ex}, IsEx ok n w v t → IsEx ok' n w' v t
  | 0, _, _, h => h.elim
  | n + 1, v, t, .inl h => .inl h
  | n + 1, v, t, .inr ⟨hi, b, kv, h1, h2, h3, h5⟩ => by
    have hb := hk b (Array.getElem?_eq_some_iff.1 h3).1 h2
    exact .inr ⟨hi, b, kv, h1, hb.1, hb.2.trans h3, h5.moved hs hk fun u o _ hp => IsEx.moved hs hk n hp⟩
theorem IsEx.more {ok : Nat → Prop} {w : World} : ∀ (n m : Nat), n ≤ m → ∀ {v : Value} {t : Ex}, IsEx ok n w v t → IsEx ok m w v t
  | 0, _, _, _, _, h => h.elim
  | n + 1, 0, hm, _, _, _ => by omega
  | n + 1, m + 1, hm, v, t, .inl h => .inl h
  | n + 1, m + 1, hm, v, t, .inr ⟨hi, b, kv, h1, h2, h3, h5⟩ => .inr ⟨hi, b, kv, h1, h2, h3, h5.moved (Nat.le_refl _) (fun g hg1 hg2 => ⟨hg2, rfl⟩) fun u o _ hp => IsEx.more n m (by omega) hp⟩
theorem IsEx.below {ok : Nat → Prop} {w w' : World} {n : Nat} {v : Value} {t : Ex} (h : IsEx ok n w v t) (hb : Below w.heap.size w w') : IsEx ok n w' v t :=
  IsEx.moved hb.size (fun b hb1 hok => ⟨hok, hb.block b hb1⟩) n h
theorem Expr.moved {ok ok' : Nat → Prop} {w w' : World} {v : Value} {t : Ex} (h : Expr ok w v t) (hs : w.heap.size ≤ w'.heap.size) (hk : ∀ b, b < w.heap.size → ok b → ok' b ∧ w'.heap[b]? = w.heap[b]?) : Expr ok' w' v t := by
  obtain ⟨n, h⟩ := h; exact ⟨n, h.moved hs hk⟩
theorem Expr.imp {ok ok' : Nat → Prop} {w : World} {v : Value} {t : Ex} (h : Expr ok w v t) (hk : ∀ b, b < w.heap.size → ok b → ok' b) : Expr ok' w v t :=
  h.moved (Nat.le_refl _) fun b hb hok => ⟨hk b hb hok, rfl⟩
theorem Expr.ptr {ok : Nat → Prop} {w : World} {v : Value} {t : Ex} (h : Expr ok w v t) : v = .pointer none ∨ ∃ b, v = .pointer (some ⟨b, 0, none⟩) ∧ ok b := by
  obtain ⟨n, h⟩ := h
  cases n with
  | zero => exact h.elim
  | succ n =>
    rcases h with h | ⟨_, b, _, h1, h2, _⟩
    · exact .inl h.2
    · exact .inr ⟨b, h1, h2⟩
/-- one pointer, one expression -/
theorem IsEx.inj {ok ok' : Nat → Prop} {w : World} : ∀ (n m : Nat) {v : Value} {t t' : Ex}, IsEx ok n w v t → IsEx ok' m w v t' → t = t'
  | 0, _, _, _, _, h, _ => h.elim
  | _ + 1, 0, _, _, _, _, h => h.elim
  | n + 1, m + 1, v, t, t', .inl h, .inl h' => by rw [h.1, h'.1]
  | n + 1, m + 1, v, t, t', .inl h, .inr ⟨_, b, kv, h1, _⟩ => by rw [h.2] at h1; simp at h1
  | n + 1, m + 1, v, t, t', .inr ⟨_, b, kv, h1, _⟩, .inl h => by rw [h.2] at h1; simp at h1
  | n + 1, m + 1, v, ⟨i, p, k, x, ks⟩, ⟨i', p', k', x', ks'⟩, .inr ⟨hi, b, kv, h1, h2, h3, h4⟩, .inr ⟨hi', b', kv', g1, g2, g3, g4⟩ => by
    rw [h1] at g1
    simp only [Value.pointer.injEq, Option.some.injEq, Addr.mk.injEq, and_true] at g1
    subst g1
    rw [h3] at g3
    simp at g3
    obtain ⟨rfl, rfl, rfl, rfl⟩ := g3
    simp only at h4 g4 hi hi'
    obtain ⟨a, c, e1⟩ := h4.slice
    obtain ⟨a', c', e2⟩ := g4.slice
    have hl : ks.length = ks'.length := by rw [e1] at e2; simp at e2; omega
    subst e1
    have : ks = ks' := by
      apply List.ext_getElem hl
      intro j hj hj'
      obtain ⟨b1, off1, u1, e1, _, c1, p1⟩ := h4.at hj
      obtain ⟨b2, off2, u2, e2, _, c2, p2⟩ := g4.at hj'
      rw [e1] at e2
      simp only [Option.some.injEq, Addr.mk.injEq, and_true] at e2
      obtain ⟨rfl, rfl⟩ := e2
      rw [c1] at c2
      obtain rfl := Option.some.inj c2
      have := IsEx.inj n m p1 p2
      simpa [List.getD, hj, hj'] using this
    rw [this, hi, hi']

end Go.Proofs.YthbglakncijahaaGreatDoor

namespace Go.Proofs.YthbglakncijahaaGreatDoor
open Go.RowKit
set_option linter.unusedVariables false
set_option maxRecDepth 100000

/-- numbers in memory -/
def IntsR (w : World) (v : Value) (l : List Int) : Prop := ∃ a c, v = .slice a l.length c ∧ l.length ≤ c ∧ (l = [] ∨ ∃ g off, a = some ⟨g, off, none⟩ ∧ g < w.heap.size ∧ ∀ j, j < l.length → w.cell? ⟨g, off + j, none⟩ = some (.int .i64 (l.getD j 0)))
theorem IntsR.below {w w' : World} {v : Value} {l : List Int} (h : IntsR w v l) (hb : Below w.heap.size w w') : IntsR w' v l := by
  obtain ⟨a, c, h1, h0, h2⟩ := h
  refine ⟨a, c, h1, h0, h2.imp id fun ⟨g, off, e, hg, hc⟩ => ⟨g, off, e, Nat.lt_of_lt_of_le hg hb.size, fun j hj => (hb.cell (p := ⟨g, off + j, none⟩) hg).trans (hc j hj)⟩⟩
/-- a number of a row, and where it lies -/
theorem IntsR.at {w : World} {a : Option Addr} {n c : Nat} {l : List Int} (h : IntsR w (.slice a n c) l) {k : Nat} (hk : k < l.length) : ∃ b off, a = some ⟨b, off, none⟩ ∧ b < w.heap.size ∧ w.cell? ⟨b, off + k, none⟩ = some (.int .i64 (l.getD k 0)) := by
  obtain ⟨a', c', e, _, h2⟩ := h
  obtain ⟨rfl, rfl, rfl⟩ : a = a' ∧ n = l.length ∧ c = c' := by simpa using e
  rcases h2 with rfl | ⟨b, off, rfl, hb, hc⟩
  · simp at hk
  · exact ⟨b, off, rfl, hb, hc k hk⟩
theorem IntsR.slice {w : World} {v : Value} {l : List Int} (h : IntsR w v l) : ∃ a c, v = .slice a l.length c := by
  obtain ⟨a, c, e, _, _⟩ := h; exact ⟨a, c, e⟩
theorem IntsR.cap {w : World} {a : Option Addr} {n c : Nat} {l : List Int} (h : IntsR w (.slice a n c) l) : l.length ≤ c := by
  obtain ⟨a', c', e, h0, _⟩ := h
  obtain ⟨rfl, rfl, rfl⟩ : a = a' ∧ n = l.length ∧ c = c' := by simpa using e
  exact h0
theorem alloc_size (w : World) (o : Obj) : (w.alloc o).heap.size = w.heap.size + 1 := Array.size_push ..
theorem alloc_below (w : World) (o : Obj) : Below w.heap.size w (w.alloc o) := (Below.refl _ w).alloc (Nat.le_refl _) _
theorem below_drewG {B : Nat} {w w' : World} (h : Below B w w') (n : Nat) : Below B w (w'.drewN n) := h.trans ⟨rfl, rfl, rfl, Nat.le_refl _, fun _ _ => rfl⟩
theorem allocAtA (w : World) (o : Obj) : (w.alloc o).heap[w.heap.size]? = some o := by
  show (w.heap.push o)[w.heap.size]? = some o
  simp
theorem cellsAtA {w : World} {B : Nat} {cs : Array Value} {t : TypeId} (h : w.heap[B]? = some (.cells cs t)) (j : Nat) (v : Value) (hv : cs[j]? = some v) : w.cell? ⟨B, j, none⟩ = some v := by
  simp only [World.cell?, h]
  exact hv
/-- a new block of four cells -/
theorem box4_cells (w : World) (a b c d : Value) (ty : TypeId) : (w.alloc (.cells #[a, b, c, d] ty)).cell? ⟨w.heap.size, 0, none⟩ = some a ∧ (w.alloc (.cells #[a, b, c, d] ty)).cell? ⟨w.heap.size, 1, none⟩ = some b ∧ (w.alloc (.cells #[a, b, c, d] ty)).cell? ⟨w.heap.size, 2, none⟩ = some c ∧ (w.alloc (.cells #[a, b, c, d] ty)).cell? ⟨w.heap.size, 3, none⟩ = some d := by
  have h := allocAtA w (.cells #[a, b, c, d] ty)
  exact ⟨cellsAtA h 0 _ rfl, cellsAtA h 1 _ rfl, cellsAtA h 2 _ rfl, cellsAtA h 3 _ rfl⟩
theorem belowSetA {B : Nat} {w w' : World} (h : Below B w w') {D : Nat} (hD : B ≤ D) (o : Nat) (v : Value) : Below B w (w'.setCell ⟨D, o, none⟩ v) :=
  ⟨h.os, h.tape, h.output, by simpa using h.size, fun k hk => (Below.heap_setCell _ _ _ _ (by simp; omega)).trans (h.block k hk)⟩

end Go.Proofs.YthbglakncijahaaGreatDoor
