/- Texts of the proof, put together: Wle, PRec, LawMeans. -/
import Derived.Test.YtbjohedenfindaaGreatDoorMg46
import Derived.Test.YtbjohedenfindaaGreatDoorMg39
import Derived.Test.YtbjohedenfindaaGreatDoorMg30
import Derived.Defers
import Derived.Recover
import Derived.Test.YtbjohedenfindaaGreatDoorMg40
import Derived.Test.YtbjohedenfindaaGreatDoorMg42
namespace Go.Proofs.YtbjohedenfindaaGreatDoor
set_option linter.unusedVariables false

theorem sum_le_map (l : List Tm) (f : Tm → Int) (g : Tm → Nat) (h : ∀ x ∈ l, 0 ≤ f x ∧ f x ≤ g x) : 0 ≤ (l.map f).sum ∧ (l.map f).sum ≤ ((l.map g).sum : Nat) := by
  induction l with
  | nil => simp
  | cons a t ih =>
    have h1 := h a (by simp)
    have h2 := ih fun x hx => h x (List.mem_cons_of_mem _ hx)
    simp only [List.map_cons, List.sum_cons]
    omega
theorem le_sumW {l : List Tm} {x : Tm} (h : x ∈ l) : wT x ≤ sumW l := by
  unfold sumW
  induction l with
  | nil => simp at h
  | cons a t ih =>
    simp only [List.map_cons, List.sum_cons]
    rcases List.mem_cons.1 h with rfl | h
    · omega
    · have := ih h; omega
theorem wT_kid {t x : Tm} (hk : t.kind ≠ 1) (hx : x ∈ t.kids) : wT x < wT t := by
  have h1 := wT_sum hk
  have h2 : wT x ≤ sumW t.kids := le_sumW hx
  omega

theorem weigh_le : ∀ (n : Nat) (t : Tm), Org t → wT t ≤ n → wT t ≤ 60 → 0 ≤ weighS n (reOf t) ∧ weighS n (reOf t) ≤ wT t
  | 0, t, hO, h, _ => by
    have : 1 ≤ wT t := by rw [wT_eq]; split <;> (try split) <;> omega
    omega
  | n + 1, t, hO, h, h60 => by
    have hkids : (reOf t).kids = (t.kids.map reOf).map some := by rw [reOf_eq]
    have hkind : (reOf t).kind = t.kind := by rw [reOf_eq]
    have hmn : (reOf t).mn = t.mn := by rw [reOf_eq]
    have hmx : (reOf t).mx = t.mx := by rw [reOf_eq]
    have hsum : ((reOf t).kids.map (kidW n)) = t.kids.map fun x => weighS n (reOf x) := by
      rw [hkids, List.map_map, List.map_map]; rfl
    have hW : weighS (n + 1) (reOf t) = if (60 : Int) < ((reOf t).kids.map (kidW n)).sum then 61 else min (1 + (if (reOf t).kind = 6 then ((reOf t).kids.map (kidW n)).sum * max (max (reOf t).mn (reOf t).mx) 1 else ((reOf t).kids.map (kidW n)).sum)) 61 := rfl
    rw [hW, hsum, hkind, hmn, hmx]
    by_cases hk : t.kind = 1
    · have hnil : t.kids = [] := by
        refine org_cases (P := fun t => t.kind = 1 → t.kids = []) t hO ?_ ?_ ?_ ?_ ?_ hk
        · intro s _; rfl
        · intro l _ h; simp [sevT] at h
        · intro k l hk _ _ h; simp [sevT] at h; omega
        · intro x _ h; simp [notT] at h
        · intro x lo hi _ _ _ h; simp [repT] at h
      rw [hnil, wT_eq, if_pos hk]
      simp [hk]
      omega
    · have hs := sum_le_map t.kids (fun x => weighS n (reOf x)) wT fun x hx => by
        have := wT_kid hk hx
        exact weigh_le n x ((org_iff.1 hO).2 x hx) (by omega) (by omega)
      have hlt := wT_sum hk
      have hsw : sumW t.kids = (t.kids.map wT).sum := rfl
      rw [if_neg (by omega)]
      rw [wT_eq, if_neg hk]
      generalize (t.kids.map fun x => weighS n (reOf x)).sum = a at *
      by_cases h6 : t.kind = 6
      · rw [if_pos h6, if_pos h6]
        have hm : max (max t.mn t.mx) 1 = ((max (max t.mn t.mx).toNat 1 : Nat) : Int) := by omega
        rw [hm]
        generalize max (max t.mn t.mx).toNat 1 = m at *
        have h1 : 0 ≤ a * (m : Int) := Int.mul_nonneg hs.1 (by omega)
        have h2 : a * (m : Int) ≤ (((t.kids.map wT).sum * m : Nat) : Int) := by
          rw [Int.natCast_mul]
          exact Int.mul_le_mul_of_nonneg_right hs.2 (by omega)
        omega
      · rw [if_neg h6, if_neg h6]
        omega

end Go.Proofs.YtbjohedenfindaaGreatDoor

namespace Go.Proofs.YtbjohedenfindaaGreatDoor
open Go.RowKit
set_option linter.unusedVariables false
set_option maxRecDepth 100000

set_option maxHeartbeats 2000000 in
theorem catch_idle (pa pb : Addr) (w : World) :
    CallsD Tryz.prog 19 #[.pointer (some pa), .pointer (some pb)] .returning w fun e u' w' => e = .returned (.tuple #[]) ∧ u' = .returning ∧ w' = w := by
  have hta : ∀ (v : Value) (w : World), (Instr.typeAssert (.iface 49 v) 20 49 true).run Tryz.prog w = .ok (.tuple #[v, .bool true]) w := fun v w => by kernel_rfl
  refine callsD_of_wpS Tryz.func19 rfl fun c₀ cs hu => ?_
  apply wpS_seq
  apply wpS_region
  simp [wpOpsS, go_sem, recoverD, hu, Tryz.ntmps19, Exit.thenS, Array.replicate, List.replicate]
  refine wpS_of_wp ?_
  go_wp2
  cases c₀
  simp_all [bodyPostS, results, Tryz.results19]

set_option maxHeartbeats 2000000 in
theorem catch_fault (pa pb : Addr) (x y : Value) (f : Addr) (w : World) (hc0 : w.cell? pa = some x) (hz0 : w.frozen? pa = false) (hc1 : (w.setCell pa (.pointer none)).cell? pb = some y) (hz1 : (w.setCell pa (.pointer none)).frozen? pb = false) :
    CallsD Tryz.prog 19 #[.pointer (some pa), .pointer (some pb)] (.panicking [{ v := .iface 49 (.pointer (some f)), recovered := false }]) w fun e u' w' =>
      e = .returned (.tuple #[]) ∧ u' = .panicking [{ v := .iface 49 (.pointer (some f)), recovered := true }] ∧ w' = (w.setCell pa (.pointer none)).setCell pb (.iface 49 (.pointer (some f))) := by
  have hta : ∀ (v : Value) (w : World), (Instr.typeAssert (.iface 49 v) 20 49 true).run Tryz.prog w = .ok (.tuple #[v, .bool true]) w := fun v w => by kernel_rfl
  refine callsD_of_wpS Tryz.func19 rfl fun c₀ cs hu => ?_
  apply wpS_seq
  apply wpS_region
  simp [wpOpsS, go_sem, recoverD, hu, Tryz.ntmps19, Exit.thenS, Array.replicate, List.replicate]
  refine wpS_of_wp ?_
  go_wp2
  cases c₀
  simp_all [bodyPostS, results, Tryz.results19]

set_option maxHeartbeats 2000000 in
theorem pread_any {W0 w : World} (L : LibC W0) (hE : Env W0 w) {mk : List Rg → Bool → List Rg} (C : SetC mk) {s : ByteArray} (hsz : s.size ≤ 10000) (hgood : ∀ t, wholeS s mk = some t → AllOk 31 t) :
    Calls Tryz.prog 7 #[.string s] w fun e w' => Below w.heap.size w w' ∧ ((readS s mk = none ∧ ∃ f, e = .returned (.tuple #[.pointer none, .iface 49 (.pointer (some f))])) ∨ ∃ t v, readS s mk = some t ∧ e = .returned (.tuple #[v, .nilIface]) ∧ Tree (fun b => w.heap.size ≤ b) w' v t) := by
  have hmf : ∀ (fn : Fn) (first cap : Array Value) (w : World), (Instr.makeFunc fn first cap).run Tryz.prog w = .ok (.func fn first cap) w := fun _ _ _ _ => rfl
  have hb2 : Below w.heap.size w ((w.alloc (.cells #[.pointer none] 22)).alloc (.cells #[.nilIface] 24)) := ((Below.refl _ w).alloc (Nat.le_refl _) _).alloc (by simp) _
  have hE2 : Env W0 ((w.alloc (.cells #[.pointer none] 22)).alloc (.cells #[.nilIface] 24)) := ⟨Nat.le_trans hE.1 hb2.size, fun k hk => (hb2.block k (Nat.lt_of_lt_of_le hk hE.1)).trans (hE.2 k hk)⟩
  have HC : Hid (Calls Tryz.prog 20 #[.string s] ((w.alloc (.cells #[.pointer none] 22)).alloc (.cells #[.nilIface] 24)) fun e w' => Below ((w.alloc (.cells #[.pointer none] 22)).alloc (.cells #[.nilIface] 24)).heap.size ((w.alloc (.cells #[.pointer none] 22)).alloc (.cells #[.nilIface] 24)) w' ∧ ((readS s mk = none ∧ Thrown e) ∨ ∃ t v, readS s mk = some t ∧ e = .returned v ∧ Tree (fun b => ((w.alloc (.cells #[.pointer none] 22)).alloc (.cells #[.nilIface] 24)).heap.size ≤ b) w' v t)) := readWhole_any L hE2 C hsz hgood
  have e2 : ((w.alloc (.cells #[.pointer none] 22)).alloc (.cells #[.nilIface] 24)).heap.size = w.heap.size + 1 + 1 := by simp
  have h0 : ((w.alloc (.cells #[.pointer none] 22)).alloc (.cells #[.nilIface] 24)).heap[w.heap.size]? = some (.cells #[.pointer none] 22 (0, 0)) := by
    rw [Below.heap_alloc _ _ _ (by simp)]; exact heap_alloc_new w _
  have h1 : ((w.alloc (.cells #[.pointer none] 22)).alloc (.cells #[.nilIface] 24)).heap[w.heap.size + 1]? = some (.cells #[.nilIface] 24 (0, 0)) := by
    have := heap_alloc_new (w.alloc (.cells #[.pointer none] 22)) (.cells #[.nilIface] 24)
    simpa using this
  rw [e2] at HC
  have H0 : Hid (((w.alloc (.cells #[.pointer none] 22)).alloc (.cells #[.nilIface] 24)).heap[w.heap.size]? = some (.cells #[.pointer none] 22 (0, 0))) := h0
  have H1 : Hid (((w.alloc (.cells #[.pointer none] 22)).alloc (.cells #[.nilIface] 24)).heap[w.heap.size + 1]? = some (.cells #[.nilIface] 24 (0, 0))) := h1
  generalize readS s mk = res at *
  clear hE2 hgood e2 h0 h1
  go_enter_defers Tryz.func7, Tryz.ntmps7
  go_wp2_with fail
  refine HC.out.mono ?_
  rintro e w3 ⟨hb3, hr⟩
  have hb03 := hb2.trans (hb3.mono (by omega))
  have k0 : w3.heap[w.heap.size]? = some (.cells #[.pointer none] 22 (0, 0)) := (hb3.block _ (by omega)).trans H0.out
  have k1 : w3.heap[w.heap.size + 1]? = some (.cells #[.nilIface] 24 (0, 0)) := (hb3.block _ (by omega)).trans H1.out
  have c0 : w3.cell? ⟨w.heap.size, 0, none⟩ = some (.pointer none) := by simp [World.cell?, k0]
  have c1 : w3.cell? ⟨w.heap.size + 1, 0, none⟩ = some .nilIface := by simp [World.cell?, k1]
  have f0 : w3.frozen? ⟨w.heap.size, 0, none⟩ = false := by simp [World.frozen?, k0]
  have f1 : w3.frozen? ⟨w.heap.size + 1, 0, none⟩ = false := by simp [World.frozen?, k1]
  clear HC H0 H1 k0 k1
  rcases hr with ⟨hx, f, rfl⟩ | ⟨t, v, hx, rfl, hT⟩
  · refine leaves_cons (f := 19) (args := #[.pointer (some ⟨w.heap.size, 0, none⟩), .pointer (some ⟨w.heap.size + 1, 0, none⟩)]) (by simp) (by simp [go_sem]) ?_
    refine (catch_fault ⟨w.heap.size, 0, none⟩ ⟨w.heap.size + 1, 0, none⟩ (.pointer none) .nilIface f _ c0 f0 ?_ ?_).mono ?_
    · rw [World.cell?_setCell_other _ _ _ _ (by simp)]; exact c1
    · rw [World.frozen?_setCell]; exact f1
    rintro e u' w'' ⟨rfl, rfl, rfl⟩
    have d1 : ((w3.setCell ⟨w.heap.size, 0, none⟩ (.pointer none)).setCell ⟨w.heap.size + 1, 0, none⟩ (.iface 49 (.pointer (some f)))).cell? ⟨w.heap.size + 1, 0, none⟩ = some (.iface 49 (.pointer (some f))) := by
      refine World.cell?_setCell_same _ _ _ (u := .nilIface) ?_
      rw [World.cell?_setCell_other _ _ _ _ (by simp)]; exact c1
    have d0 : ((w3.setCell ⟨w.heap.size, 0, none⟩ (.pointer none)).setCell ⟨w.heap.size + 1, 0, none⟩ (.iface 49 (.pointer (some f)))).cell? ⟨w.heap.size, 0, none⟩ = some (.pointer none) := by
      rw [World.cell?_setCell_other _ _ _ _ (by simp)]
      exact World.cell?_setCell_same _ _ _ (u := .pointer none) c0
    have hbz := (hb03.setCell (p := ⟨w.heap.size, 0, none⟩) (Nat.le_refl _) (.pointer none)).setCell (p := ⟨w.heap.size + 1, 0, none⟩) (Nat.le_succ _) (.iface 49 (.pointer (some f)))
    simp [Leaves, settle, results, Tryz.results7, go_sem, d0, d1]
    exact ⟨hbz, hx⟩
  · obtain ⟨vb, rfl, hvb⟩ := hT.ptr
    have HX : Hid (res = some t) := hx
    have HT : Hid (Tree (fun b => w.heap.size + 1 + 1 ≤ b) w3 (.pointer (some ⟨vb, 0, none⟩)) t) := hT
    clear hx hT
    have d1 : ((w3.setCell ⟨w.heap.size, 0, none⟩ (.pointer (some ⟨vb, 0, none⟩))).setCell ⟨w.heap.size + 1, 0, none⟩ .nilIface).cell? ⟨w.heap.size + 1, 0, none⟩ = some .nilIface := by
      refine World.cell?_setCell_same _ _ _ (u := .nilIface) ?_
      rw [World.cell?_setCell_other _ _ _ _ (by simp)]; exact c1
    have d0 : ((w3.setCell ⟨w.heap.size, 0, none⟩ (.pointer (some ⟨vb, 0, none⟩))).setCell ⟨w.heap.size + 1, 0, none⟩ .nilIface).cell? ⟨w.heap.size, 0, none⟩ = some (.pointer (some ⟨vb, 0, none⟩)) := by
      rw [World.cell?_setCell_other _ _ _ _ (by simp)]
      exact World.cell?_setCell_same _ _ _ (u := .pointer none) c0
    have hbz := (hb03.setCell (p := ⟨w.heap.size, 0, none⟩) (Nat.le_refl _) (.pointer (some ⟨vb, 0, none⟩))).setCell (p := ⟨w.heap.size + 1, 0, none⟩) (Nat.le_succ _) .nilIface
    have HTz : Hid (Tree (fun b => w.heap.size ≤ b) ((w3.setCell ⟨w.heap.size, 0, none⟩ (.pointer (some ⟨vb, 0, none⟩))).setCell ⟨w.heap.size + 1, 0, none⟩ .nilIface) (.pointer (some ⟨vb, 0, none⟩)) t) := ((HT.out.grown (Lib.grownBy_setCell w3 w.heap.size 0 _) fun b hb e => by have := Option.some.inj e; omega).grown (Lib.grownBy_setCell _ (w.heap.size + 1) 0 _) fun b hb e => by have := Option.some.inj e; omega).imp fun b _ hb => by omega
    have D0 : Hid _ := d0
    have D1 : Hid _ := d1
    clear d0 d1
    go_wp2
    refine leaves_cons (f := 19) (args := #[.pointer (some ⟨w.heap.size, 0, none⟩), .pointer (some ⟨w.heap.size + 1, 0, none⟩)]) (by simp) (by simp [go_sem]) ?_
    refine (catch_idle ⟨w.heap.size, 0, none⟩ ⟨w.heap.size + 1, 0, none⟩ _).mono ?_
    rintro e u' w'' ⟨rfl, rfl, rfl⟩
    simp [Leaves, settle, results, Tryz.results7, go_sem, D0.out, D1.out]
    exact ⟨hbz, t, HX.out, HTz.out⟩

end Go.Proofs.YtbjohedenfindaaGreatDoor

namespace Go.Proofs.YtbjohedenfindaaGreatDoor
open Go.RowKit
set_option linter.unusedVariables false
set_option maxRecDepth 100000

/-- what light gives -/
def LightP (w : World) (s : ByteArray) (mk : List Rg → Bool → List Rg) (e : Ending) (w' : World) : Prop := Below w.heap.size w w' ∧ ((∃ p, e = .returned (.tuple #[.pointer p, .bool false])) ∨ ∃ (tm : Tm) (b : Nat), e = .returned (.tuple #[.pointer (some ⟨b, 0, none⟩), .bool true]) ∧ wholeS s mk = some (reOf tm) ∧ TT (fun b => w.heap.size ≤ b) w' (.pointer (some ⟨b, 0, none⟩)) tm ∧ GoodT (reOf tm) ∧ Org tm ∧ Sml tm ∧ Two tm ∧ wT tm ≤ 24)

set_option maxHeartbeats 4000000 in
theorem light_any {W0 w : World} (L : LibC W0) (hE : Env W0 w) {mk : List Rg → Bool → List Rg} (M : MkOk mk) {s : ByteArray} (hs : s.size ≤ 2000) :
    Calls Tryz.prog 16 #[.string s] w fun e w' => LightP w s mk e w' := by
  have HR : Hid (Calls Tryz.prog 8 #[.string s] w fun e w' => RdP w s mk e w') := rread_any L hE (setd_of M) M.dot hs (pokc_of M (by omega))
  have HG : Hid (∀ t, wholeS s mk = some t → GoodT t) := fun t h => wholeS_good (by omega) (fun a b _ => ⟨(M a b).2.1, Nat.le_trans (M a b).2.2 (by omega)⟩) h
  clear hE L
  go_enter Tryz.func16, Tryz.ntmps16
  go_wp2_with fail
  go_at_call 8
  refine HR.out.mono ?_
  rintro e w1 ⟨hb1, ⟨te, pe, z, rfl⟩ | ⟨t, b, hw, rfl, hT⟩⟩
  · go_wp2
    go_ret2
    exact ⟨hb1, .inl ⟨none, rfl⟩⟩
  · have hG := HG.out t hw
    obtain ⟨tm, rfl, hO, hS, h2⟩ := good_tm t hG
    have HX : Hid (wholeS s mk = some (reOf tm) ∧ GoodT (reOf tm) ∧ Org tm ∧ Sml tm ∧ Two tm) := ⟨hw, hG, hO, hS, h2⟩
    have hT' : TT (fun b => w.heap.size ≤ b) w1 (.pointer (some ⟨b, 0, none⟩)) tm := hT
    have HT : Hid (∀ w2, Below w1.heap.size w1 w2 → TT (fun b => w.heap.size ≤ b) w2 (.pointer (some ⟨b, 0, none⟩)) tm) := fun w2 hb => hT'.below hb
    have HW : Hid (Calls Tryz.prog 26 #[.pointer (some ⟨b, 0, none⟩)] w1 fun e w' => ∃ z, e = .returned (.int .i64 z) ∧ Wgt tm z ∧ Below w1.heap.size w1 w') := weight_any tm _ w1 _ hT' hS
    clear hw hG hO hS h2 hT hT' HR HG
    go_wp2_with fail
    go_at_call 26
    refine HW.out.mono ?_
    rintro e w2 ⟨z, rfl, hz, hb2⟩
    have hb3 := hb1.trans (hb2.mono hb1.size)
    have HT2 := HT.out w2 hb2
    have HT3 : Hid (TT (fun b => w.heap.size ≤ b) w2 (.pointer (some ⟨b, 0, none⟩)) tm) := HT2
    have HZ : Hid (Wgt tm z) := hz
    clear hz HT2 HT HW
    by_cases h24 : z ≤ 24
    · go_wp2
      go_ret2
      refine ⟨hb3, .inr ⟨tm, b, by first | rfl | simp, HX.out.1, HT3.out, HX.out.2.1, HX.out.2.2.1, HX.out.2.2.2.1, HX.out.2.2.2.2, ?_⟩⟩
      rcases HZ.out.1 with h | h <;> omega
    · go_wp2
      go_ret2
      exact ⟨hb3, .inl ⟨some ⟨b, 0, none⟩, by simp; exact h24⟩⟩

theorem pts_rng (s : ByteArray) : ∀ c ∈ pts s, 0 ≤ c ∧ c ≤ 1114111 := by
  have h : ∀ f pos, ∀ c ∈ ptsFrom s f pos, 0 ≤ c ∧ c ≤ 1114111 := by
    intro f
    induction f with
    | zero => intro pos c hc; simp [ptsFrom] at hc
    | succ f ih =>
      intro pos c hc
      rw [ptsFrom] at hc
      split at hc
      · rcases List.mem_cons.1 hc with rfl | hc
        · have := dec_rune s pos; omega
        · exact ih _ c hc
      · simp at hc
  exact h s.size 0

set_option maxHeartbeats 1000000 in
theorem law_means_long (s t : ByteArray) (w : World) (h : 2000 < s.size) :
    Calls Tryz.prog 5 #[.string s, .string t] w fun e w' => e = .returned (.bool true) ∧ Below w.heap.size w w' := by
  have h1 : (2000 : Int) < (s.size : Int) := by omega
  go_enter Tryz.func5, Tryz.ntmps5
  go_wp2
  go_ret
  exact ⟨rfl, Below.refl _ _⟩
set_option maxHeartbeats 1000000 in
theorem law_means_text (s t : ByteArray) (w : World) (h0 : s.size ≤ 2000) (h : 40 < t.size) :
    Calls Tryz.prog 5 #[.string s, .string t] w fun e w' => e = .returned (.bool true) ∧ Below w.heap.size w w' := by
  have h1 : ¬ (2000 : Int) < (s.size : Int) := by omega
  have h2 : (40 : Int) < (t.size : Int) := by omega
  go_enter Tryz.func5, Tryz.ntmps5
  go_wp2
  go_ret
  exact ⟨rfl, Below.refl _ _⟩

set_option maxHeartbeats 8000000 in
theorem law_means {W0 w : World} (L : LibC W0) (hE : Env W0 w) (s t : ByteArray) (hs : s.size ≤ 2000) (ht : t.size ≤ 40) :
    Calls Tryz.prog 5 #[.string s, .string t] w fun e w' => e = .returned (.bool true) ∧ Below w.heap.size w w' := by
  obtain ⟨mk, Mk⟩ := mk_exists
  have k1 : ¬ (2000 : Int) < (s.size : Int) := by omega
  have k2 : ¬ (40 : Int) < (t.size : Int) := by omega
  have HL : Hid (Calls Tryz.prog 16 #[.string s] w fun e w' => LightP w s mk e w') := light_any L hE Mk hs
  have HGr : Hid (∀ tm : Re, wholeS s mk = some tm → AllOk 31 tm) := fun tm h => wholeS_good (by omega) (fun a b _ => ⟨(Mk a b).2.1, Nat.le_trans (Mk a b).2.2 (by omega)⟩) h 31
  have HP : Hid (∀ w', Below w.heap.size w w' → Calls Tryz.prog 7 #[.string s] w' fun e w'' => Below w'.heap.size w' w'' ∧ ((readS s mk = none ∧ ∃ f, e = .returned (.tuple #[.pointer none, .iface 49 (.pointer (some f))])) ∨ ∃ t v, readS s mk = some t ∧ e = .returned (.tuple #[v, .nilIface]) ∧ Tree (fun b => w'.heap.size ≤ b) w'' v t)) := fun w' hb => pread_any L (hE.below hb) (setc_of Mk) (by omega) HGr.out
  have hpl : (pts t).length ≤ 40 := by have := (len_back t).1; omega
  go_enter Tryz.func5, Tryz.ntmps5
  go_wp2_with fail
  go_at_call 16
  refine HL.out.mono ?_
  rintro e w1 ⟨hb1, ⟨p, rfl⟩ | ⟨tm, b, rfl, hw, hT, hG, hO, hS, h2, h24⟩⟩
  · go_wp2
    go_ret
    exact ⟨rfl, hb1⟩
  · have hwe := weigh_le 31 tm hO (by omega) (by omega)
    have hrs : readS s mk = some (reOf tm) := by
      unfold readS
      rw [hw]
      simp only
      rw [if_pos (by omega)]
    have HP2 : Hid (Calls Tryz.prog 7 #[.string s] w1 fun e w'' => Below w1.heap.size w1 w'' ∧ ∃ b2, e = .returned (.tuple #[.pointer (some ⟨b2, 0, none⟩), .nilIface]) ∧ TT (fun b => w1.heap.size ≤ b) w'' (.pointer (some ⟨b2, 0, none⟩)) tm) := by
      refine (HP.out w1 hb1).mono ?_
      rintro e w'' ⟨hb, ⟨hx, _⟩ | ⟨t', v, hx, rfl, hT2⟩⟩
      · rw [hrs] at hx; cases hx
      · rw [hrs] at hx
        injection hx with hx
        subst hx
        obtain ⟨b2, rfl, _⟩ := hT2.ptr
        exact ⟨hb, b2, rfl, hT2⟩
    have HM1 : Hid (∀ (w' : World) (b2 : Nat) (ok : Nat → Prop), TT ok w' (.pointer (some ⟨b2, 0, none⟩)) tm → Calls Tryz.prog 17 #[.pointer (some ⟨b2, 0, none⟩), .string t] w' fun e w'' => ∃ bb, e = .returned (.bool bb) ∧ (bb = true ↔ M tm (pts t)) ∧ Below w'.heap.size w' w'') := fun w' b2 ok hT2 => pmatches_any (by omega) (hG 31) hT2 hO hS h2 ht (pts_rng t)
    have HM2 : Hid (∀ (w' : World), Below w1.heap.size w1 w' → Calls Tryz.prog 18 #[.pointer (some ⟨b, 0, none⟩), .string t] w' fun e w'' => ∃ z : Bool, e = .returned (.bool z) ∧ (z = true ↔ M tm (pts t)) ∧ Below w'.heap.size w' w'') := fun w' hb => rmatches_any (hT.below hb) hO hS h24 (pts_rng t) hpl ht
    clear hwe hrs hw hT hG hO hS h2 h24 HL HP HGr
    go_wp2_with fail
    go_at_call 7
    refine HP2.out.mono ?_
    rintro e w2 ⟨hb2, b2, rfl, hT2⟩
    have HT2 : Hid (TT (fun b => w1.heap.size ≤ b) w2 (.pointer (some ⟨b2, 0, none⟩)) tm) := hT2
    clear hT2 HP2
    go_wp2_with fail
    go_at_call 17
    refine (HM1.out w2 b2 _ HT2.out).mono ?_
    rintro e w3 ⟨x, rfl, hx, hb3⟩
    have hb13 := hb2.trans (hb3.mono hb2.size)
    have HX : Hid (x = true ↔ M tm (pts t)) := hx
    clear hx
    go_wp2_with fail
    go_at_call 18
    refine (HM2.out w3 hb13).mono ?_
    rintro e w4 ⟨y, rfl, hy, hb4⟩
    have hb14 := hb13.trans (hb4.mono hb13.size)
    have hbz := hb1.trans (hb14.mono hb1.size)
    have hxy : x = y := by
      have h := HX.out.trans hy.symm
      cases x <;> cases y <;> simp_all
    subst hxy
    clear hy HX HM1 HM2 hb3 hb4 hb13 hb14
    go_wp2
    go_ret
    exact ⟨by simp, hbz⟩

end Go.Proofs.YtbjohedenfindaaGreatDoor
