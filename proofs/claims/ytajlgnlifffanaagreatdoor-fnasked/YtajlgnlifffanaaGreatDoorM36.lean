/- Heaps: what one step up and one step down keep. The heap of rows: its methods. The heap of rows: up. -/
import Derived.Test.YtajlgnlifffanaaGreatDoorM4
import Derived.Test.YtajlgnlifffanaaGreatDoorM7
import Derived.Test.YtajlgnlifffanaaGreatDoorM3
import Derived.Deep.QuietTactic
import Derived.BigQuiet
namespace Go.Proofs.YtajlgnlifffanaaGreatDoor
set_option linter.unusedVariables false

/-- Two places changed round. -/
def swF (f : Nat → Int) (i j : Nat) : Nat → Int := fun k => if k = i then f j else if k = j then f i else f k

theorem swF_l (f : Nat → Int) (i j : Nat) : swF f i j i = f j := if_pos rfl
theorem swF_r (f : Nat → Int) (i j : Nat) : swF f i j j = f i := by
  unfold swF
  by_cases h : j = i
  · rw [if_pos h, h]
  · rw [if_neg h, if_pos rfl]
theorem swF_o {f : Nat → Int} {i j k : Nat} (h1 : ¬ k = i) (h2 : ¬ k = j) : swF f i j k = f k := by
  unfold swF
  rw [if_neg h1, if_neg h2]

def HeapF (f : Nat → Int) (n : Nat) : Prop := ∀ k, k < n → 0 < k → f ((k - 1) / 2) ≤ f k

/-- A heap but for what stands at j, which may be too small. -/
def UpOk (f : Nat → Int) (n j : Nat) : Prop := (∀ k, k < n → 0 < k → ¬ k = j → f ((k - 1) / 2) ≤ f k) ∧ (∀ k, k < n → 0 < j → 0 < k → (k - 1) / 2 = j → f ((j - 1) / 2) ≤ f k)

/-- A heap but for what stands at i, which may be too great. -/
def DownOk (f : Nat → Int) (n i : Nat) : Prop := (∀ k, k < n → 0 < k → ¬ (k - 1) / 2 = i → f ((k - 1) / 2) ≤ f k) ∧ (∀ k, k < n → 0 < k → (k - 1) / 2 = i → 0 < i → f ((i - 1) / 2) ≤ f k)

theorem heap_root {f : Nat → Int} {n : Nat} (h : HeapF f n) : ∀ k, k < n → f 0 ≤ f k := by
  intro k
  induction k using Nat.strongRecOn with
  | ind k ih =>
    intro hk
    rcases Nat.eq_zero_or_pos k with rfl | h0
    · exact Int.le_refl _
    · exact Int.le_trans (ih ((k - 1) / 2) (by omega) (by omega)) (h k hk h0)

/-- One more behind a heap. -/
theorem up_start {f : Nat → Int} {n : Nat} (h : HeapF f n) : UpOk f (n + 1) n :=
  ⟨fun k hk h0 hne => h k (by omega) h0, fun k hk _ h0 hp => by omega⟩

theorem up_step {f : Nat → Int} {n j : Nat} (h : UpOk f n j) (h0 : 0 < j) (hj : j < n) (hlt : f j < f ((j - 1) / 2)) : UpOk (swF f j ((j - 1) / 2)) n ((j - 1) / 2) := by
  obtain ⟨p, hp⟩ : ∃ p, (j - 1) / 2 = p := ⟨_, rfl⟩
  have hpj : p < j := by omega
  have h1 := h.1
  have h2 := fun k a b c => h.2 k a h0 b c
  rw [hp] at hlt h2 ⊢
  refine ⟨fun k hk hk0 hkp => ?_, fun k hk hp0 hk0 hkp => ?_⟩
  · by_cases hkj : k = j
    · subst hkj
      rw [hp, swF_r, swF_l]
      omega
    · rw [swF_o hkj hkp]
      by_cases q1 : (k - 1) / 2 = j
      · rw [q1, swF_l]
        exact h2 k hk hk0 q1
      · by_cases q2 : (k - 1) / 2 = p
        · have := h1 k hk hk0 hkj
          rw [q2] at this ⊢
          rw [swF_r]
          omega
        · rw [swF_o q1 q2]
          exact h1 k hk hk0 hkj
  · have e1 : swF f j p ((p - 1) / 2) = f ((p - 1) / 2) := swF_o (by omega) (by omega)
    have e2 := h1 p (by omega) hp0 (by omega)
    rw [e1]
    by_cases hkj : k = j
    · subst hkj
      rw [swF_l]
      exact e2
    · rw [swF_o hkj (by omega)]
      have := h1 k hk hk0 hkj
      rw [hkp] at this
      omega

theorem up_end {f : Nat → Int} {n j : Nat} (h : UpOk f n j) (he : j = 0 ∨ f ((j - 1) / 2) ≤ f j) : HeapF f n := fun k hk h0 => by
  by_cases hkj : k = j
  · subst hkj
    rcases he with rfl | he
    · omega
    · exact he
  · exact h.1 k hk h0 hkj

theorem down_start {f : Nat → Int} {n : Nat} (h : ∀ k, k < n → 0 < k → ¬ (k - 1) / 2 = 0 → f ((k - 1) / 2) ≤ f k) : DownOk f n 0 :=
  ⟨fun k hk h0 hne => h k hk h0 hne, fun k _ _ _ h0 => absurd h0 (Nat.lt_irrefl 0)⟩

theorem down_step {f : Nat → Int} {n i j : Nat} (h : DownOk f n i) (hj : j < n) (hji : (j - 1) / 2 = i) (h0 : 0 < j) (hlt : f j < f i) (hm : ∀ k, k < n → 0 < k → (k - 1) / 2 = i → f j ≤ f k) : DownOk (swF f i j) n j := by
  refine ⟨fun k hk hk0 hkq => ?_, fun k hk hk0 hkq _ => ?_⟩
  · by_cases hki : k = i
    · subst hki
      rw [swF_l, swF_o (by omega) hkq]
      exact h.2 j hj h0 hji hk0
    · by_cases hkj : k = j
      · subst hkj
        rw [hji, swF_l, swF_r]
        omega
      · rw [swF_o hki hkj]
        by_cases q1 : (k - 1) / 2 = i
        · rw [q1, swF_l]
          exact hm k hk hk0 q1
        · rw [swF_o q1 hkq]
          exact h.1 k hk hk0 q1
  · have e : swF f i j k = f k := swF_o (by omega) (by omega)
    rw [hji, swF_l, e]
    have := h.1 k hk hk0 (by omega)
    rw [hkq] at this
    exact this

theorem down_end {f : Nat → Int} {n i : Nat} (h : DownOk f n i) (he : ∀ k, k < n → 0 < k → (k - 1) / 2 = i → f i ≤ f k) : HeapF f n := fun k hk h0 => by
  by_cases hk1 : (k - 1) / 2 = i
  · rw [hk1]
    exact he k hk h0 hk1
  · exact h.1 k hk h0 hk1

end Go.Proofs.YtajlgnlifffanaaGreatDoor

namespace Go.Proofs.YtajlgnlifffanaaGreatDoor
open Go.RowKit
set_option linter.unusedVariables false
set_option linter.unusedSimpArgs false

theorem cWLen (a : Option Addr) (n c : Nat) (w : World) : Calls Tryz.prog 187 #[.slice a n c] w fun e w' => e = .returned (.int .i64 (n : Int)) ∧ w' = w := by
  go_enter Tryz.func187, Tryz.ntmps187
  go_wp2
  go_ret
  exact ⟨rfl, rfl⟩

theorem cWLess (a : Option Addr) (c : Nat) (l : List Ro) (i j : Nat) (w : World) (hR : RoRow w a l) (hi : i < l.length) (hj : j < l.length) :
    Calls Tryz.prog 188 #[.slice a l.length c, .int .i64 (i : Int), .int .i64 (j : Int)] w fun e w' => e = .returned (.bool (decide (l[i].til < l[j].til))) ∧ Below w.heap.size w w' := by
  obtain ⟨b, o, rfl, hb, c1, c2⟩ := hR i hi
  obtain ⟨b2, o2, e2, hb', k1, k2⟩ := hR j hj
  obtain ⟨rfl, rfl⟩ : b2 = b ∧ o2 = o := by
    injection e2 with e2
    injection e2 with x y z
    exact ⟨x.symm, y.symm⟩
  clear c1 k1 e2 hR
  generalize l[i].til = x at *
  generalize l[j].til = y at *
  generalize l.length = n at *
  have hi1 : (i : Int) < (n : Int) := by omega
  have hj1 : (j : Int) < (n : Int) := by omega
  obtain ⟨D, hD⟩ : ∃ D, decide (x < y) = D := ⟨_, rfl⟩
  go_enter Tryz.func188, Tryz.ntmps188
  go_wp2_with fail
  go_quiet (fail)
  go_wp2_with fail
  go_ret
  exact ⟨by rw [hD]; rfl, (Below.refl w.heap.size w).grown (row := none) ⟨rfl, rfl, rfl, Nat.le_refl _, fun _ _ _ => rfl⟩ (Nat.le_refl _) (fun k e => by cases e)⟩

theorem nil_push (R : Nat) (w : World) : (nilAhead 361 139 (.pointer (some ⟨R, 0, none⟩)) "Push").run Tryz.prog w = .ok (some false) w := by kernel_rfl
theorem nil_pop (R : Nat) (w : World) : (nilAhead 361 139 (.pointer (some ⟨R, 0, none⟩)) "Pop").run Tryz.prog w = .ok (some false) w := by kernel_rfl
theorem nil_len (R : Nat) (w : World) : (nilAhead 361 139 (.pointer (some ⟨R, 0, none⟩)) "Len").run Tryz.prog w = .ok (some false) w := by kernel_rfl
theorem nil_less (R : Nat) (w : World) : (nilAhead 361 139 (.pointer (some ⟨R, 0, none⟩)) "Less").run Tryz.prog w = .ok (some false) w := by kernel_rfl
theorem nil_swap (R : Nat) (w : World) : (nilAhead 361 139 (.pointer (some ⟨R, 0, none⟩)) "Swap").run Tryz.prog w = .ok (some false) w := by kernel_rfl
theorem meth_push (R : Nat) (w : World) : (method 361 139 (.pointer (some ⟨R, 0, none⟩)) "Push").run Tryz.prog w = .ok (191, .pointer (some ⟨R, 0, none⟩)) w := by kernel_rfl
theorem meth_pop (R : Nat) (w : World) : (method 361 139 (.pointer (some ⟨R, 0, none⟩)) "Pop").run Tryz.prog w = .ok (190, .pointer (some ⟨R, 0, none⟩)) w := by kernel_rfl

theorem info_len : (Tryz.prog.info? 139).bind (fun i => (i.methods.find? (fun x => x.name == "Len")).map (fun m => (m.path.toList, m.path.isEmpty, m.func))) = some ([], true, some (187, false)) := by kernel_rfl

theorem meth_len (R : Nat) (v : Value) (w : World) (h : w.cell? ⟨R, 0, none⟩ = some v) : (method 361 139 (.pointer (some ⟨R, 0, none⟩)) "Len").run Tryz.prog w = .ok (187, v) w := by
  have hi := info_len
  cases h1 : Tryz.prog.info? 139 with
  | none => rw [h1] at hi; cases hi
  | some i =>
    rw [h1] at hi
    simp only [Option.bind_some] at hi
    cases h2 : i.methods.find? (fun x => x.name == "Len") with
    | none => rw [h2] at hi; cases hi
    | some m =>
      rw [h2] at hi
      simp only [Option.map_some, Option.some.injEq, Prod.mk.injEq] at hi
      obtain ⟨p1, p2, p3⟩ := hi
      unfold method
      have p0 : m.path = #[] := by simpa using p1
      have hn : ∀ nm : String, Builtin.ssaWrapNilChk_ #[139] 139 #[.pointer (some ⟨R, 0, none⟩), strVal "", strVal nm] = pure (.pointer (some ⟨R, 0, none⟩)) := fun _ => rfl
      have ha : (isAgg 137).run Tryz.prog w = .ok false w := by kernel_rfl
      simp [typeInfo, h1, h2, p0, p3, follow, receiverAt, Place.get, asAddr, go_sem, h, ha, hn, loadVar]


theorem info_less : (Tryz.prog.info? 139).bind (fun i => (i.methods.find? (fun x => x.name == "Less")).map (fun m => (m.path.toList, m.path.isEmpty, m.func))) = some ([], true, some (188, false)) := by kernel_rfl

theorem meth_less (R : Nat) (v : Value) (w : World) (h : w.cell? ⟨R, 0, none⟩ = some v) : (method 361 139 (.pointer (some ⟨R, 0, none⟩)) "Less").run Tryz.prog w = .ok (188, v) w := by
  have hi := info_less
  cases h1 : Tryz.prog.info? 139 with
  | none => rw [h1] at hi; cases hi
  | some i =>
    rw [h1] at hi
    simp only [Option.bind_some] at hi
    cases h2 : i.methods.find? (fun x => x.name == "Less") with
    | none => rw [h2] at hi; cases hi
    | some m =>
      rw [h2] at hi
      simp only [Option.map_some, Option.some.injEq, Prod.mk.injEq] at hi
      obtain ⟨p1, p2, p3⟩ := hi
      unfold method
      have p0 : m.path = #[] := by simpa using p1
      have hn : ∀ nm : String, Builtin.ssaWrapNilChk_ #[139] 139 #[.pointer (some ⟨R, 0, none⟩), strVal "", strVal nm] = pure (.pointer (some ⟨R, 0, none⟩)) := fun _ => rfl
      have ha : (isAgg 137).run Tryz.prog w = .ok false w := by kernel_rfl
      simp [typeInfo, h1, h2, p0, p3, follow, receiverAt, Place.get, asAddr, go_sem, h, ha, hn, loadVar]


theorem info_swap : (Tryz.prog.info? 139).bind (fun i => (i.methods.find? (fun x => x.name == "Swap")).map (fun m => (m.path.toList, m.path.isEmpty, m.func))) = some ([], true, some (189, false)) := by kernel_rfl

theorem meth_swap (R : Nat) (v : Value) (w : World) (h : w.cell? ⟨R, 0, none⟩ = some v) : (method 361 139 (.pointer (some ⟨R, 0, none⟩)) "Swap").run Tryz.prog w = .ok (189, v) w := by
  have hi := info_swap
  cases h1 : Tryz.prog.info? 139 with
  | none => rw [h1] at hi; cases hi
  | some i =>
    rw [h1] at hi
    simp only [Option.bind_some] at hi
    cases h2 : i.methods.find? (fun x => x.name == "Swap") with
    | none => rw [h2] at hi; cases hi
    | some m =>
      rw [h2] at hi
      simp only [Option.map_some, Option.some.injEq, Prod.mk.injEq] at hi
      obtain ⟨p1, p2, p3⟩ := hi
      unfold method
      have p0 : m.path = #[] := by simpa using p1
      have hn : ∀ nm : String, Builtin.ssaWrapNilChk_ #[139] 139 #[.pointer (some ⟨R, 0, none⟩), strVal "", strVal nm] = pure (.pointer (some ⟨R, 0, none⟩)) := fun _ => rfl
      have ha : (isAgg 137).run Tryz.prog w = .ok false w := by kernel_rfl
      simp [typeInfo, h1, h2, p0, p3, follow, receiverAt, Place.get, asAddr, go_sem, h, ha, hn, loadVar]


/-- The world behind a swap. -/
def swW (w : World) (g i j : Nat) (x y : ByteArray) (u v : Int) : World :=
  ((((w.setCell ⟨g, i * 2, none⟩ (.string y)).setCell ⟨g, i * 2 + 1, none⟩ (.int .i64 v)).setCell ⟨g, j * 2, none⟩ (.string x)).setCell ⟨g, j * 2 + 1, none⟩ (.int .i64 u)).drew

theorem swW_heap {w : World} {g : Nat} {cu : Array Value} {T : TypeId} (i j : Nat) (x y : ByteArray) (u v : Int) (h : w.heap[g]? = some (.cells cu T (0, 0))) :
    (swW w g i j x y u v).heap[g]? = some (.cells ((((cu.setIfInBounds (i * 2) (.string y)).setIfInBounds (i * 2 + 1) (.int .i64 v)).setIfInBounds (j * 2) (.string x)).setIfInBounds (j * 2 + 1) (.int .i64 u)) T (0, 0)) :=
  u_heap_set (i := j * 2 + 1) (u_heap_set (i := j * 2) (u_heap_set (i := i * 2 + 1) (u_heap_set (i := i * 2) h _) _) _) _

theorem swW_keep (w : World) (g i j : Nat) (x y : ByteArray) (u v : Int) : u_KeepB (fun k => k = g) w (swW w g i j x y u v) := by
  have h := (((u_KeepB.of_set (p := fun k => k = g) w (i * 2) (.string y) rfl).trans (u_KeepB.of_set _ (i * 2 + 1) (.int .i64 v) rfl)).trans (u_KeepB.of_set _ (j * 2) (.string x) rfl)).trans (u_KeepB.of_set _ (j * 2 + 1) (.int .i64 u) rfl)
  exact ⟨h.os, h.tape, h.output, h.size, h.block⟩

/-- Two rows changed round. -/
def swR (l : List Ro) (i j : Nat) (hi : i < l.length) (hj : j < l.length) : List Ro := (l.toArray.swap i j (by simpa using hi) (by simpa using hj)).toList

theorem swR_len (l : List Ro) (i j : Nat) (hi : i < l.length) (hj : j < l.length) : (swR l i j hi hj).length = l.length := by
  unfold swR
  simp

theorem swR_perm (l : List Ro) (i j : Nat) (hi : i < l.length) (hj : j < l.length) : (swR l i j hi hj).Perm l :=
  (Array.swap_perm (xs := l.toArray) (by simpa using hi) (by simpa using hj)).toList

theorem swR_get (l : List Ro) (i j k : Nat) (hi : i < l.length) (hj : j < l.length) (hk : k < (swR l i j hi hj).length) : (swR l i j hi hj)[k] = if k = i then l[j] else if k = j then l[i] else l[k]'(by rw [swR_len] at hk; exact hk) := by
  unfold swR
  simp only [List.swap_toArray, List.getElem_set]
  by_cases h2 : k = j
  · subst h2
    rw [if_pos rfl]
    by_cases h1 : k = i
    · subst h1
      rw [if_pos rfl]
    · rw [if_neg h1, if_pos rfl]
  · rw [if_neg (fun e => h2 e.symm), if_neg h2]
    by_cases h1 : k = i
    · rw [if_pos h1.symm, if_pos h1]
    · rw [if_neg (fun e => h1 e.symm), if_neg h1]

def keyF (l : List Ro) : Nat → Int := fun k => if h : k < l.length then l[k].til else 0

theorem keyF_lt {l : List Ro} {k : Nat} (h : k < l.length) : keyF l k = l[k].til := dif_pos h
theorem keyF_ge {l : List Ro} {k : Nat} (h : ¬ k < l.length) : keyF l k = 0 := dif_neg h

theorem swR_key (l : List Ro) (i j : Nat) (hi : i < l.length) (hj : j < l.length) : keyF (swR l i j hi hj) = swF (keyF l) i j := by
  funext k
  by_cases h1 : k = i
  · subst h1
    rw [swF_l, keyF_lt hj, keyF_lt (by rw [swR_len]; exact hi), swR_get, if_pos rfl]
  · by_cases h2 : k = j
    · subst h2
      rw [swF_r, keyF_lt hi, keyF_lt (by rw [swR_len]; exact hj), swR_get, if_neg h1, if_pos rfl]
    · rw [swF_o h1 h2]
      by_cases h : k < l.length
      · rw [keyF_lt h, keyF_lt (by rw [swR_len]; exact h), swR_get, if_neg h1, if_neg h2]
      · rw [keyF_ge h, keyF_ge (by rw [swR_len]; exact h)]

set_option maxRecDepth 8000 in
theorem cWSwap (g c n i j : Nat) (x y : ByteArray) (u v : Int) (w : World) (ci0 : w.cell? ⟨g, i * 2, none⟩ = some (.string x)) (ci1 : w.cell? ⟨g, i * 2 + 1, none⟩ = some (.int .i64 u)) (cj0 : w.cell? ⟨g, j * 2, none⟩ = some (.string y)) (cj1 : w.cell? ⟨g, j * 2 + 1, none⟩ = some (.int .i64 v))
    (hf : ∀ o, w.frozen? ⟨g, o, none⟩ = false) (hi : i < n) (hj : j < n) :
    Calls Tryz.prog 189 #[.slice (some ⟨g, 0, none⟩) n c, .int .i64 (i : Int), .int .i64 (j : Int)] w fun e w' => e = .returned (.tuple #[]) ∧ w' = swW w g i j x y u v := by
  have hi1 : (i : Int) < (n : Int) := by omega
  have hj1 : (j : Int) < (n : Int) := by omega
  have f1 := hf (i * 2)
  have f2 := hf (i * 2 + 1)
  have f3 := hf (j * 2)
  have f4 := hf (j * 2 + 1)
  clear hf hi hj
  by_cases hij : i = j
  case pos =>
    subst hij
    obtain rfl : x = y := by rw [ci0] at cj0; injection cj0 with cj0; injection cj0
    obtain rfl : u = v := by rw [ci1] at cj1; injection cj1 with cj1; injection cj1
    go_enter Tryz.func189, Tryz.ntmps189
    go_wp2_with fail
    go_region
    all_goals
      go_wp2_with fail
      go_end0
      exact ⟨rfl, rfl⟩
  have hji : ¬ j = i := fun e => hij e.symm
  have n1 : ¬ i * 2 = j * 2 := by omega
  have n2 : ¬ j * 2 = i * 2 := by omega
  have n3 : ¬ i * 2 + 1 = j * 2 := by omega
  have n4 : ¬ j * 2 = i * 2 + 1 := by omega
  have n5 : ¬ i * 2 = j * 2 + 1 := by omega
  have n6 : ¬ j * 2 + 1 = i * 2 := by omega
  go_enter Tryz.func189, Tryz.ntmps189
  go_wp2_with fail
  go_region
  all_goals
    go_wp2_with fail
    go_end0
    exact ⟨rfl, rfl⟩

theorem get_set {cu : Array Value} {a b : Nat} {v : Value} (ha : a < cu.size) : (cu.setIfInBounds a v)[b]? = if a = b then some v else cu[b]? := by
  rw [Array.getElem?_setIfInBounds]
  by_cases h : a = b
  · subst h
    rw [if_pos rfl, if_pos rfl, if_pos ha]
  · rw [if_neg h, if_neg h]

theorem lt_of_some {cu : Array Value} {a : Nat} {v : Value} (h : cu[a]? = some v) : a < cu.size := by
  rcases Nat.lt_or_ge a cu.size with q | q
  · exact q
  · rw [Array.getElem?_eq_none q] at h
    cases h

theorem cells_sw {cu : Array Value} {l : List Ro} {i j : Nat} (h : RoCells cu 0 l) (hi : i < l.length) (hj : j < l.length) :
    RoCells ((((cu.setIfInBounds (i * 2) (.string l[j].id)).setIfInBounds (i * 2 + 1) (.int .i64 l[j].til)).setIfInBounds (j * 2) (.string l[i].id)).setIfInBounds (j * 2 + 1) (.int .i64 l[i].til)) 0 (swR l i j hi hj) := by
  intro m hm
  have hm' : m < l.length := by rw [swR_len] at hm; exact hm
  obtain ⟨m0, m1⟩ := h m hm'
  obtain ⟨i0, i1⟩ := h i hi
  obtain ⟨j0, j1⟩ := h j hj
  rw [Nat.zero_add] at *
  have a1 := lt_of_some i0
  have a2 := lt_of_some i1
  have a3 := lt_of_some j0
  have a4 := lt_of_some j1
  rw [swR_get]
  rw [get_set (by simpa using a4), get_set (by simpa using a3), get_set (by simpa using a2), get_set (by simpa using a1), get_set (by simpa using a4), get_set (by simpa using a3), get_set (by simpa using a2), get_set (by simpa using a1)]
  by_cases q2 : m = j
  · subst q2
    by_cases q1 : m = i
    · subst q1
      exact ⟨by rw [if_neg (by omega), if_pos rfl, if_pos rfl], by rw [if_pos rfl, if_pos rfl]⟩
    · exact ⟨by rw [if_neg (by omega), if_pos rfl, if_neg q1, if_pos rfl], by rw [if_pos rfl, if_neg q1, if_pos rfl]⟩
  · by_cases q1 : m = i
    · subst q1
      exact ⟨by rw [if_neg (by omega), if_neg (by omega), if_neg (by omega), if_pos rfl, if_pos rfl], by rw [if_neg (by omega), if_neg (by omega), if_pos rfl, if_pos rfl]⟩
    · exact ⟨by rw [if_neg (by omega), if_neg (by omega), if_neg (by omega), if_neg (by omega), if_neg q1, if_neg q2]; exact m0, by rw [if_neg (by omega), if_neg (by omega), if_neg (by omega), if_neg (by omega), if_neg q1, if_neg q2]; exact m1⟩

end Go.Proofs.YtajlgnlifffanaaGreatDoor

namespace Go.Proofs.YtajlgnlifffanaaGreatDoor
open Go.RowKit
set_option linter.unusedVariables false
set_option linter.unusedSimpArgs false

theorem take_cells {cu : Array Value} {l : List Ro} (h : RoCells cu 0 l) (hs : l.length * 2 ≤ cu.size) : cu.toList.take (l.length * 2) = roC l := by
  apply List.ext_getElem?
  intro m
  rw [List.getElem?_take]
  by_cases hm : m < l.length * 2
  · rw [if_pos hm]
    obtain ⟨k, hk⟩ : ∃ k, k = m / 2 := ⟨_, rfl⟩
    have hkl : k < l.length := by omega
    obtain ⟨c0, c1⟩ := h k hkl
    obtain ⟨g0, g1⟩ := roC_get l k hkl
    rw [Nat.zero_add] at c0 c1
    rcases (show m = k * 2 ∨ m = k * 2 + 1 by omega) with rfl | rfl
    · rw [g0, ← c0, Array.getElem?_toList]
    · rw [g1, ← c1, Array.getElem?_toList]
  · rw [if_neg hm, List.getElem?_eq_none (by rw [roC_len]; omega)]

/-- The heap's box and its rows. -/
structure Wt (w : World) (B R g c : Nat) (l : List Ro) : Prop where
  box : w.heap[R]? = some (.cells #[.slice (some ⟨g, 0, none⟩) l.length c] 137 (0, 0))
  own : w.ownsRow B 83 2 (.slice (some ⟨g, 0, none⟩) l.length c) l.length (roC l)

theorem Wt.ne {w : World} {B R g c : Nat} {l : List Ro} (h : Wt w B R g c l) : ¬ g = R := fun e => by
  subst e
  rcases h.own.2 with ⟨e1, _⟩ | ⟨g', cp, cur, e1, _, k2, _⟩
  · cases e1
  · injection e1 with e1
    injection e1 with e1
    injection e1 with e1
    subst e1
    have := h.box
    rw [this] at k2
    injection k2 with k2
    injection k2 with _ ht
    exact absurd ht (by decide)

theorem Wt.cells {w : World} {B R g c : Nat} {l : List Ro} (h : Wt w B R g c l) (h0 : 0 < l.length) : ∃ cu, w.heap[g]? = some (.cells cu 83 (0, 0)) ∧ RoCells cu 0 l := by
  obtain ⟨a', c', e, ho⟩ := own_ro h.own rfl
  cases e
  obtain ⟨g', o', cu, e', _, h1, h2⟩ := ho h0
  rcases h.own.2 with ⟨e1, e2⟩ | ⟨g2, cp, cur, e1, _, k2, _⟩
  · cases e1
  · cases e1
    cases e'
    exact ⟨cu, h1, h2⟩

theorem Wt.swap {w : World} {B R g c : Nat} {l : List Ro} (h : Wt w B R g c l) (i j : Nat) (hi : i < l.length) (hj : j < l.length) : Wt (swW w g i j l[i].id l[j].id l[i].til l[j].til) B R g c (swR l i j hi hj) := by
  have hne := h.ne
  obtain ⟨cu, h1, h2⟩ := h.cells (by omega)
  have hk := swW_keep w g i j l[i].id l[j].id l[i].til l[j].til
  refine ⟨?_, ?_⟩
  · rw [swR_len]
    exact (hk.block R (lt_of_heap h.box) (fun e => hne e.symm)).trans h.box
  · rcases h.own.2 with ⟨e1, e2⟩ | ⟨g2, cp, cur, e1, k1, k2, k3, k4, k5, k6⟩
    · cases e1
    · cases e1
      rw [h1] at k2
      injection k2 with k2
      injection k2 with k2
      subst k2
      have hw := swW_heap i j l[i].id l[j].id l[i].til l[j].til h1
      have hc := cells_sw h2 hi hj
      rw [swR_len]
      refine ⟨by rw [roC_len, swR_len], .inr ⟨g, c, _, rfl, k1, hw, k3, k4, ?_, ?_⟩⟩
      · simpa using k5
      · have := take_cells hc (by rw [swR_len]; have := congrArg List.length k6; rw [List.length_take, roC_len] at this; simp; simp at this; omega)
        rw [swR_len] at this
        exact this

theorem Wt.row {w : World} {B R g c : Nat} {l : List Ro} (h : Wt w B R g c l) : RoRow w (some ⟨g, 0, none⟩) l := by
  obtain ⟨a', c', e, ho⟩ := own_ro h.own rfl
  cases e
  exact ho.row

theorem Wt.below {w w' : World} {B R g c : Nat} {l : List Ro} (h : Wt w B R g c l) (hb : Below w.heap.size w w') : Wt w' B R g c l := ⟨u_blk_below h.box hb, ownsRow_below h.own hb⟩

theorem swF_comm (f : Nat → Int) (i j : Nat) : swF f i j = swF f j i := by
  funext k
  by_cases h1 : k = i
  · subst h1
    rw [swF_l, swF_r]
  · by_cases h2 : k = j
    · subst h2
      rw [swF_r, swF_l]
    · rw [swF_o h1 h2, swF_o h2 h1]

/-- What up and down leave. -/
def HeapPost (B R g c : Nat) (l : List Ro) (Q : List Ro → Prop) (w w' : World) : Prop := ∃ l' : List Ro, l'.Perm l ∧ Q l' ∧ Wt w' B R g c l' ∧ u_KeepB (fun k => k = g) w w'

set_option maxRecDepth 8000 in
set_option maxHeartbeats 8000000 in
theorem cUp (B R g c : Nat) (l : List Ro) (j : Nat) (w : World) (hW : Wt w B R g c l) (hj : j < l.length) (hU : UpOk (keyF l) l.length j) (hn : l.length ≤ 100000) :
    Calls Tryz.prog 129 #[.iface 139 (.pointer (some ⟨R, 0, none⟩)), .int .i64 (j : Int)] w fun e w' => e = .returned (.tuple #[]) ∧ HeapPost B R g c l (fun l' => HeapF (keyF l') l'.length) w w' := by
  have nl := fun wx => nil_less R wx
  have ns := fun wx => nil_swap R wx
  have HW := hid hW
  have HU := hid hU
  obtain ⟨n, hnn⟩ : ∃ n, l.length = n := ⟨_, rfl⟩
  have HN := hid hnn
  rw [hnn] at hj hn
  clear hW hU hnn
  go_enter Tryz.func129, Tryz.ntmps129
  go_wp2_with fail
  go_loopw [1] (fun v wr => ∃ (i : Nat) (m : List Ro), v = .int .i64 (i : Int) ∧ i < n ∧ Hid (m.length = n) ∧ Hid (m.Perm l) ∧ Hid (UpOk (keyF m) m.length i) ∧ Hid (Wt wr B R g c m) ∧ Hid (u_KeepB (fun k => k = g) w wr)) (fun v _ => (intOf v).toNat)
  case atStart => exact ⟨j, l, rfl, hj, HN.out, List.Perm.refl _, HU.out, HW.out, u_KeepB.refl _ _⟩
  case round =>
    clear HW HU hj HN
    obtain ⟨i, m, rfl, hi, HN, HP, HU, HW, HK⟩ := hrel
    by_cases h0 : i = 0
    case pos =>
      subst h0
      go_wp2_with fail
      go_end0
      exact ⟨rfl, m, HP.out, up_end HU.out (.inl rfl), HW.out, HK.out⟩
    obtain ⟨p, hp⟩ : ∃ p, (i - 1) / 2 = p := ⟨_, rfl⟩
    have hpi : p < i := by omega
    have hq : Int.tdiv ((i : Int) - 1) 2 = (p : Int) := by rw [Int.tdiv_eq_ediv_of_nonneg (by omega)]; omega
    have hw1 : IntKind.i64.wrap ((i : Int) - 1) = (i : Int) - 1 := IntWalk.i64_in _ (by omega)
    have hw2 : IntKind.i64.wrap (p : Int) = (p : Int) := IntWalk.i64_in _ (by omega)
    have hne : ¬ (p : Int) = (i : Int) := by omega
    have him : i < m.length := by rw [HN.out]; exact hi
    have hpm : p < m.length := by omega
    have HPI := hid (And.intro h0 hp)
    have ml := meth_less R _ wr (by rw [Lib.cell_of_heap HW.out.box]; rfl)
    have CL := hid (cWLess (some ⟨g, 0, none⟩) c m i p wr HW.out.row him hpm)
    have CS := hid (fun (wx : World) (h : Wt wx B R g c m) => (show RoRow wx (some ⟨g, 0, none⟩) m from h.row))
    rw [HN.out] at ml CL
    clear h0 hp
    obtain ⟨D, hD⟩ : ∃ D, decide (m[i].til < m[p].til) = D := ⟨_, rfl⟩
    have HD := hid hD
    rw [hD] at CL
    clear hD
    go_wp2_with fail
    refine CL.out.mono ?_
    rintro e w2 ⟨rfl, hb2⟩
    have HW2 := hid (HW.out.below hb2)
    have HK2 := hid (HK.out.trans (u_KeepB.of_below _ hb2))
    clear hb2 CL HK HW ml CS
    cases D with
    | false =>
      have HF := hid (show HeapF (keyF m) m.length from up_end HU.out (.inr (by
        have h1 := of_decide_eq_false HD.out
        rw [HPI.out.2, keyF_lt him, keyF_lt hpm]
        omega)))
      go_wp2_with fail
      go_end0
      exact ⟨rfl, m, HP.out, HF.out, HW2.out, HK2.out⟩
    | true =>
      have HF := hid (show UpOk (keyF (swR m p i hpm him)) (swR m p i hpm him).length p from by
        have h1 := of_decide_eq_true HD.out
        have h2 := up_step HU.out (by have := HPI.out.1; omega) him (by rw [HPI.out.2, keyF_lt him, keyF_lt hpm]; exact h1)
        rw [HPI.out.2] at h2
        rw [swR_key, swR_len, swF_comm]
        exact h2)
      have HP3 := hid ((swR_perm m p i hpm him).trans HP.out)
      have HN3 := hid ((swR_len m p i hpm him).trans HN.out)
      have HW3 := hid (HW2.out.swap p i hpm him)
      have HK3 := hid (HK2.out.trans (swW_keep w2 g p i m[p].id m[i].id m[p].til m[i].til))
      have ms := meth_swap R _ w2 (by rw [Lib.cell_of_heap HW2.out.box]; rfl)
      have hpn : p < n := by omega
      have CS := hid (by
        obtain ⟨cu, hh, hcu⟩ := HW2.out.cells (by omega)
        obtain ⟨q0, q1⟩ := hcu p hpm
        obtain ⟨q2, q3⟩ := hcu i him
        rw [Nat.zero_add] at q0 q1 q2 q3
        exact cWSwap g c n p i m[p].id m[i].id m[p].til m[i].til w2 (by rw [Lib.cell_of_heap hh]; exact q0) (by rw [Lib.cell_of_heap hh]; exact q1) (by rw [Lib.cell_of_heap hh]; exact q2) (by rw [Lib.cell_of_heap hh]; exact q3) (fun o => Lib.frozen_of_heap hh _) hpn hi)
      rw [HN.out] at ms
      clear HW2 HK2 HU HP HD
      go_wp2_with fail
      refine CS.out.mono ?_
      rintro e w3 ⟨rfl, rfl⟩
      have hpx := HPI.out
      clear ms CS
      go_wp2_with fail
      go_roundw
      case rel => exact ⟨p, _, rfl, hpn, HN3.out, HP3.out, HF.out, HW3.out, HK3.out⟩
      case measure => simp [intOf]; omega

end Go.Proofs.YtajlgnlifffanaaGreatDoor
