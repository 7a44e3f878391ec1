/- Marks in a table: set, and held. Marks in a gate: set, and held. -/
import Derived.Test.YtnjepdggefchnaaGreatDoorM11
import Derived.Test.YtnjepdggefchnaaGreatDoorM17
import Derived.Test.YtnjepdggefchnaaGreatDoorM4
namespace Go.Proofs.YtnjepdggefchnaaGreatDoor
open Go.RowKit
set_option linter.unusedVariables false
set_option linter.unusedSimpArgs false

/-- The first n rows from o on bear the marks from k on. -/
def MarksR (cur : Array Value) (o n k : Nat) : Prop := ∀ j, j < n → cur[o + j * 2]? = some (.string (u_markS (k + 2 * j))) ∧ cur[o + j * 2 + 1]? = some (.int .i64 ((k + 2 * j + 1 : Nat) : Int))

theorem cMarkRow0 (a : Option Addr) (cap k : Nat) (w : World) :
    Calls Tryz.prog 51 #[.slice a 0 cap, .int .i64 k] w fun e w' => e = .returned (.int .i64 k) ∧ w' = w := by
  go_enter Tryz.func51, Tryz.ntmps51
  go_wp2
  go_loop [1, 5] (fun x j => x = .int .i64 (k : Int) ∧ j = .int .i64 0) (fun _ _ => 0)
  case atStart => exact ⟨rfl, rfl⟩
  case round =>
    obtain ⟨rfl, rfl⟩ := hrel
    go_wp2
    go_ret
    exact ⟨rfl, rfl⟩

set_option maxRecDepth 8000 in
set_option maxHeartbeats 2000000 in
theorem cMarkRowS (g o cap n k : Nat) (cur0 : Array Value) (w : World) (hg : w.heap[g]? = some (.cells cur0 78 (0, 0))) (ho : o + n * 2 ≤ cur0.size) (hk : k + 2 * n ≤ 100000000) :
    Calls Tryz.prog 51 #[.slice (some ⟨g, o, none⟩) n cap, .int .i64 k] w fun e w' => e = .returned (.int .i64 ((k + 2 * n : Nat) : Int)) ∧ (∃ cur, w'.heap[g]? = some (.cells cur 78 (0, 0)) ∧ cur.size = cur0.size ∧ MarksR cur o n k) ∧ w.grownBy w' (some g) := by
  have HG := hid hg
  clear hg
  go_enter Tryz.func51, Tryz.ntmps51
  go_wp2
  go_loopw [1, 5] (fun x y wr => ∃ (i : Nat) (cur : Array Value), x = .int .i64 ((k + 2 * i : Nat) : Int) ∧ y = .int .i64 (i : Int) ∧ i ≤ n ∧ Hid (wr.heap[g]? = some (.cells cur 78 (0, 0))) ∧ cur.size = cur0.size ∧ Hid (MarksR cur o i k) ∧ Hid (w.grownBy wr (some g))) (fun _ y _ => n - (intOf y).toNat)
  case atStart => exact ⟨0, cur0, rfl, rfl, Nat.zero_le _, HG.out, rfl, fun j h => by omega, World.grownBy.refl _ _⟩
  case round =>
    clear HG
    obtain ⟨i, cur, rfl, rfl, hi, HH, hcs, HM, HW⟩ := hrel
    by_cases hlt : i < n
    · have hin : (i : Int) < (n : Int) := by omega
      have C1 := fun w => u_cMarkText (k + 2 * i) (by omega) w
      obtain ⟨K, hK⟩ : ∃ K, k + 2 * i = K := ⟨_, rfl⟩
      obtain ⟨X, hX⟩ : ∃ X, u_markS (k + 2 * i) = X := ⟨_, rfl⟩
      have HX := hid hX
      have HKK := hid hK
      have HE := hid (show K + 2 = k + 2 * (i + 1) by omega)
      rw [hX] at C1
      rw [hK] at C1 ⊢
      have hKb : K ≤ 100000000 := by omega
      clear hX hK
      go_wp2_with fail
      refine (C1 _).mono ?_
      rintro e w2 ⟨rfl, hb2⟩
      have HW2 := hid (u_gr_below HW.out hb2)
      have H2 := hid (u_blk_below HH.out hb2)
      obtain ⟨o1, k1⟩ := u_cell_there H2.out (i := o + i * 2) (by omega)
      have f1 : w2.frozen? ⟨g, o + i * 2, none⟩ = false := Lib.frozen_of_heap H2.out _
      have H3 := hid (u_heap_set (i := o + i * 2) H2.out (.string X))
      have HW3 := hid (u_gr_set HW2.out (o + i * 2) (.string X))
      clear hb2 C1
      obtain ⟨w3, hw3⟩ : ∃ w3, w2.setCell ⟨g, o + i * 2, none⟩ (.string X) = w3 := ⟨_, rfl⟩
      rw [hw3] at H3 HW3
      obtain ⟨o2, k2⟩ := u_cell_there H3.out (i := o + i * 2 + 1) (by simp; omega)
      have f2 : w3.frozen? ⟨g, o + i * 2 + 1, none⟩ = false := Lib.frozen_of_heap H3.out _
      have H5 := hid (u_heap_set (i := o + i * 2 + 1) H3.out (.int .i64 ((K + 1 : Nat) : Int)))
      have HW5 := hid (u_gr_set HW3.out (o + i * 2 + 1) (.int .i64 ((K + 1 : Nat) : Int)))
      have HM5 := hid (show MarksR ((cur.setIfInBounds (o + i * 2) (.string X)).setIfInBounds (o + i * 2 + 1) (.int .i64 ((K + 1 : Nat) : Int))) o (i + 1) k from fun j hj => by
        by_cases e : j = i
        · subst e
          rw [HX.out, HKK.out]
          simp [Array.getElem?_setIfInBounds, hcs]
          omega
        · have := HM.out j (by omega)
          simp only [Array.getElem?_setIfInBounds]
          rw [if_neg (by omega), if_neg (by omega), if_neg (by omega), if_neg (by omega)]
          exact this)
      have eK : ((K + 1 : Nat) : Int) = (K : Int) + 1 := by omega
      rw [eK] at HW5 H5 HM5
      clear eK
      go_wp2_with fail
      go_roundw
      case rel => exact ⟨i + 1, _, by rw [← HE.out]; go_num, by go_num, by omega, H5.out, by simp [hcs], HM5.out, HW5.out⟩
      case measure => simp [intOf]; omega
    · have hie : i = n := by omega
      subst hie
      go_wp2_with fail
      go_ret
      exact ⟨rfl, ⟨cur, HH.out, hcs, HM.out⟩, HW.out⟩

set_option maxRecDepth 8000 in
set_option maxHeartbeats 2000000 in
theorem cHeldRowS (a : Option Addr) (cap k : Nat) (l : List Ro) (w : World) (hR : RoRow w a l) (hm : ∀ j (h : j < l.length), l[j].id = u_markS (k + 2 * j) ∧ l[j].til = ((k + 2 * j + 1 : Nat) : Int)) (hk : k + 2 * l.length ≤ 100000000) :
    Calls Tryz.prog 52 #[.slice a l.length cap, .int .i64 k] w fun e w' => e = .returned (.int .i64 ((k + 2 * l.length : Nat) : Int)) ∧ Below w.heap.size w w' := by
  have HR := hid hR
  have HM := hid hm
  clear hR hm
  obtain ⟨n, hnn⟩ : ∃ n, l.length = n := ⟨_, rfl⟩
  have HN := hid hnn
  rw [hnn] at hk ⊢
  clear hnn
  go_enter Tryz.func52, Tryz.ntmps52
  go_wp2
  go_loopw [1, 5] (fun x y wr => ∃ i : Nat, x = .int .i64 ((k + 2 * i : Nat) : Int) ∧ y = .int .i64 (i : Int) ∧ i ≤ n ∧ Hid (Below w.heap.size w wr)) (fun _ y _ => n - (intOf y).toNat)
  case atStart => exact ⟨0, rfl, rfl, Nat.zero_le _, Below.refl _ _⟩
  case round =>
    obtain ⟨i, rfl, rfl, hi, HB⟩ := hrel
    by_cases hlt : i < n
    · have his : i < l.length := by rw [HN.out]; exact hlt
      have hin : (i : Int) < (n : Int) := by omega
      obtain ⟨b, o, rfl, hb, c1, c2⟩ := HR.out.below HB.out i his
      obtain ⟨m1, m2⟩ := HM.out i his
      rw [m1] at c1
      rw [m2] at c2
      have C1 := fun w => u_cMarkText (k + 2 * i) (by omega) w
      have s1 := u_markS_size (k + 2 * i)
      obtain ⟨K, hK⟩ : ∃ K, k + 2 * i = K := ⟨_, rfl⟩
      obtain ⟨X, hX⟩ : ∃ X, u_markS (k + 2 * i) = X := ⟨_, rfl⟩
      have HE := hid (show K + 2 = k + 2 * (i + 1) by omega)
      rw [hX] at C1 c1 s1
      rw [hK] at C1 s1 c2 ⊢
      have hKb : K ≤ 100000000 := by omega
      have eK : ((K + 1 : Nat) : Int) = (K : Int) + 1 := by omega
      rw [eK] at c2
      clear hX hK m1 m2 eK
      have q1 : (X.toList != X.toList) = false := by simp
      have q2 : (((K : Int) + 1) != ((K : Int) + 1)) = false := by simp
      have HNB := hid (bw_any wr)
      obtain ⟨d1, d2⟩ := pair_bw hb c1 c2
      go_wp2_with fail
      haveI := HNB.out
      refine wp_region_below (by kernel_rfl) (by kernel_rfl) (Below.refl wr.heap.size wr) ?_
      repeat (go_big_quiet_step ((go_at_call 50; exact calls_bw _ (C1 _))))
      refine wpQuiet_nil ?_
      intro w2 hw'
      obtain ⟨⟨wx, hb2⟩, hw''⟩ := hw'
      subst hw''
      have HB2 := hid (bb HB.out hb2)
      have e2 : w2.cell? ⟨b, o + i * 2 + 1, none⟩ = some (.int .i64 ((K : Int) + 1)) := (hb2.cell (p := ⟨b, o + i * 2 + 1, none⟩) hb).trans c2
      clear this HNB d1 d2 c1 c2 C1 hb2
      go_wp2_with fail
      go_roundw
      case rel => exact ⟨i + 1, by rw [← HE.out]; go_num, by go_num, by omega, HB2.out⟩
      case measure => simp [intOf]; omega
    · have hie : i = n := by omega
      subst hie
      go_wp2_with fail
      go_ret
      exact ⟨rfl, HB.out⟩

theorem ro_room {cu : Array Value} {o : Nat} {l : List Ro} (h : RoCells cu o l) (hl : 0 < l.length) : o + l.length * 2 ≤ cu.size := by
  have h1 := (h (l.length - 1) (by omega)).2
  have h2 : o + (l.length - 1) * 2 + 1 < cu.size := by
    rcases Nat.lt_or_ge (o + (l.length - 1) * 2 + 1) cu.size with h' | h'
    · exact h'
    · rw [Array.getElem?_eq_none h'] at h1
      cases h1
  omega

/-- The rows are marked. -/
def HeldR (w : World) (a : Option Addr) (n : Nat) : Prop := 0 < n → ∃ g o cu, a = some ⟨g, o, none⟩ ∧ w.heap[g]? = some (.cells cu 78 (0, 0)) ∧ MarksR cu o n 1

theorem HeldR.below {w w' : World} {a : Option Addr} {n : Nat} (h : HeldR w a n) (hb : Below w.heap.size w w') : HeldR w' a n := fun hn => by
  obtain ⟨g, o, cu, e1, e2, e3⟩ := h hn
  exact ⟨g, o, cu, e1, u_blk_below e2 hb, e3⟩

set_option maxHeartbeats 4000000 in
theorem cMarkTable (t : Tb) (a : Option Addr) (cap B : Nat) (w : World) (hO : OwnRo w B a t.rows) (hn : t.rows.length ≤ 1048577) :
    Calls Tryz.prog 26 #[tbV t a cap, .int .i64 1] w fun e w' => e = .returned (.int .i64 ((1 + 2 * t.rows.length : Nat) : Int)) ∧ HeldR w' a t.rows.length ∧ u_KeepB (fun b => ∃ o, a = some ⟨b, o, none⟩ ∧ 0 < t.rows.length) w w' := by
  have HB0 := hid ((Below.refl w.heap.size w).alloc (Nat.le_refl _) (.cells #[.int .i64 t.most, .slice a t.rows.length cap] 32))
  have HO := hid hO
  unfold tbV
  clear hO
  rcases Nat.eq_zero_or_pos t.rows.length with h0 | h0
  · have CM := hid (fun wx => cMarkRow0 a cap 1 wx)
    rw [h0] at HB0 hn ⊢
    go_enter Tryz.func26, Tryz.ntmps26
    go_wp2_with fail
    refine (CM.out _).mono ?_
    rintro e w1 ⟨rfl, rfl⟩
    go_wp2_with fail
    go_ret
    exact ⟨rfl, fun h => absurd h (Nat.lt_irrefl 0), u_KeepB.of_below _ HB0.out⟩
  · obtain ⟨g, o, cu, e1, e2, e3, e4⟩ := HO.out h0
    subst e1
    have CM := hid (cMarkRowS g o cap t.rows.length 1 cu (w.alloc (.cells #[.int .i64 t.most, .slice (some ⟨g, o, none⟩) t.rows.length cap] 32)) (u_blk_below e3 HB0.out) (ro_room e4 h0) (by omega))
    have H0 := hid h0
    clear e2 e3 e4 HO h0
    obtain ⟨n, hnn⟩ : ∃ n, t.rows.length = n := ⟨_, rfl⟩
    rw [hnn] at CM HB0 hn H0 ⊢
    clear hnn
    generalize t.most = m at *
    obtain ⟨K, hK⟩ : ∃ K, 1 + 2 * n = K := ⟨_, rfl⟩
    rw [hK] at CM ⊢
    clear hK
    go_enter Tryz.func26, Tryz.ntmps26
    go_wp2_with fail
    refine CM.out.mono ?_
    rintro e w1 ⟨rfl, hm, hgr⟩
    have HH := hid (show HeldR w1 (some ⟨g, o, none⟩) n from fun _ => by
      obtain ⟨cur, k1, _, k3⟩ := hm
      exact ⟨g, o, cur, rfl, k1, k3⟩)
    have HK := hid ((u_KeepB.of_below (fun b => ∃ o', (some ⟨g, o, none⟩ : Option Addr) = some ⟨b, o', none⟩ ∧ 0 < n) HB0.out).trans (u_KeepB.of_grown (p := fun b => ∃ o', (some ⟨g, o, none⟩ : Option Addr) = some ⟨b, o', none⟩ ∧ 0 < n) hgr ⟨o, rfl, H0.out⟩))
    clear hgr CM hm
    go_wp2_with fail
    go_ret
    exact ⟨rfl, HH.out, HK.out⟩

/-- The marked rows. -/
def markR (n : Nat) : List Ro := (List.range n).map fun j => ⟨u_markS (1 + 2 * j), ((1 + 2 * j + 1 : Nat) : Int)⟩

theorem markR_len (n : Nat) : (markR n).length = n := by unfold markR; rw [List.length_map, List.length_range]

theorem markR_at (n j : Nat) (h : j < (markR n).length) : (markR n)[j] = ⟨u_markS (1 + 2 * j), ((1 + 2 * j + 1 : Nat) : Int)⟩ := by
  simp [markR]

theorem HeldR.row {w : World} {a : Option Addr} {n : Nat} (h : HeldR w a n) : RoRow w a (markR n) := fun j hj => by
  have hj' : j < n := by rw [markR_len] at hj; exact hj
  obtain ⟨g, o, cu, e1, e2, e3⟩ := h (by omega)
  rw [markR_at]
  exact ⟨g, o, e1, lt_of_heap e2, by rw [Lib.cell_of_heap e2]; exact (e3 j hj').1, by rw [Lib.cell_of_heap e2]; exact (e3 j hj').2⟩

set_option maxHeartbeats 4000000 in
theorem cHeldTable (t : Tb) (a : Option Addr) (cap : Nat) (w : World) (hH : HeldR w a t.rows.length) (hn : t.rows.length ≤ 1048577) :
    Calls Tryz.prog 28 #[tbV t a cap, .int .i64 1] w fun e w' => e = .returned (.int .i64 ((1 + 2 * t.rows.length : Nat) : Int)) ∧ Below w.heap.size w w' := by
  have HB0 := hid ((Below.refl w.heap.size w).alloc (Nat.le_refl _) (.cells #[.int .i64 t.most, .slice a t.rows.length cap] 32))
  have CH := hid (fun (wx : World) (h : Below w.heap.size w wx) => cHeldRowS a cap 1 (markR t.rows.length) wx ((hH.below h).row) (fun j hj => by rw [markR_at]; exact ⟨rfl, rfl⟩) (by rw [markR_len]; omega))
  rw [markR_len] at CH
  unfold tbV
  clear hH
  obtain ⟨n, hnn⟩ : ∃ n, t.rows.length = n := ⟨_, rfl⟩
  rw [hnn] at CH HB0 hn ⊢
  clear hnn
  generalize t.most = m at *
  obtain ⟨K, hK⟩ : ∃ K, 1 + 2 * n = K := ⟨_, rfl⟩
  rw [hK] at CH ⊢
  clear hK
  have hd : decide ((K : Int) < 0) = false := by simp
  go_enter Tryz.func28, Tryz.ntmps28
  go_wp2_with fail
  refine (CH.out _ HB0.out).mono ?_
  rintro e w1 ⟨rfl, hb1⟩
  have HB1 := hid (bb HB0.out hb1)
  clear hb1 CH
  go_wp2_with fail
  go_ret
  exact ⟨rfl, HB1.out⟩

end Go.Proofs.YtnjepdggefchnaaGreatDoor

namespace Go.Proofs.YtnjepdggefchnaaGreatDoor
open Go.RowKit
set_option linter.unusedVariables false
set_option linter.unusedSimpArgs false

/-- The first n hands from o on bear the marks from k on. -/
def MarksH (cur : Array Value) (o n k : Nat) : Prop := ∀ j, j < n → cur[o + j * 4]? = some (.string (u_markS (k + 4 * j))) ∧ cur[o + j * 4 + 1]? = some (.int .i64 ((k + 4 * j + 1 : Nat) : Int)) ∧ cur[o + j * 4 + 2]? = some (.int .i64 ((k + 4 * j + 2 : Nat) : Int)) ∧ cur[o + j * 4 + 3]? = some (.int .i64 ((k + 4 * j + 3 : Nat) : Int))

theorem cMarkHand0 (a : Option Addr) (cap k : Nat) (w : World) :
    Calls Tryz.prog 25 #[.slice a 0 cap, .int .i64 k] w fun e w' => e = .returned (.int .i64 k) ∧ w' = w := by
  go_enter Tryz.func25, Tryz.ntmps25
  go_wp2
  go_loop [1, 5] (fun x j => x = .int .i64 (k : Int) ∧ j = .int .i64 0) (fun _ _ => 0)
  case atStart => exact ⟨rfl, rfl⟩
  case round =>
    obtain ⟨rfl, rfl⟩ := hrel
    go_wp2
    go_ret
    exact ⟨rfl, rfl⟩

theorem marksH_step {cur : Array Value} {o n i k N : Nat} (hs : cur.size = N) (hi : i < n) (hN : o + n * 4 ≤ N) (HM : MarksH cur o i k) :
    MarksH ((((cur.setIfInBounds (o + i * 4) (.string (u_markS (k + 4 * i)))).setIfInBounds (o + i * 4 + 1) (.int .i64 ((k + 4 * i + 1 : Nat) : Int))).setIfInBounds (o + i * 4 + 2) (.int .i64 ((k + 4 * i + 2 : Nat) : Int))).setIfInBounds (o + i * 4 + 3) (.int .i64 ((k + 4 * i + 3 : Nat) : Int))) o (i + 1) k := by
  intro j hj
  by_cases e : j = i
  · subst e
    simp only [Array.getElem?_setIfInBounds, Array.size_setIfInBounds, hs]
    refine ⟨?_, ?_, ?_, ?_⟩
    · rw [if_neg (by omega), if_neg (by omega), if_neg (by omega), if_pos trivial, if_pos (by omega)]
    · rw [if_neg (by omega), if_neg (by omega), if_pos trivial, if_pos (by omega)]
    · rw [if_neg (by omega), if_pos trivial, if_pos (by omega)]
    · rw [if_pos trivial, if_pos (by omega)]
  · have := HM j (by omega)
    simp only [Array.getElem?_setIfInBounds]
    refine ⟨?_, ?_, ?_, ?_⟩
    · rw [if_neg (by omega), if_neg (by omega), if_neg (by omega), if_neg (by omega)]; exact this.1
    · rw [if_neg (by omega), if_neg (by omega), if_neg (by omega), if_neg (by omega)]; exact this.2.1
    · rw [if_neg (by omega), if_neg (by omega), if_neg (by omega), if_neg (by omega)]; exact this.2.2.1
    · rw [if_neg (by omega), if_neg (by omega), if_neg (by omega), if_neg (by omega)]; exact this.2.2.2

set_option maxRecDepth 8000 in
set_option maxHeartbeats 4000000 in
theorem cMarkHandS (g o cap n k : Nat) (cur0 : Array Value) (w : World) (hg : w.heap[g]? = some (.cells cur0 69 (0, 0))) (ho : o + n * 4 ≤ cur0.size) (hk : k + 4 * n ≤ 100000000) :
    Calls Tryz.prog 25 #[.slice (some ⟨g, o, none⟩) n cap, .int .i64 k] w fun e w' => e = .returned (.int .i64 ((k + 4 * n : Nat) : Int)) ∧ (∃ cur, w'.heap[g]? = some (.cells cur 69 (0, 0)) ∧ cur.size = cur0.size ∧ MarksH cur o n k) ∧ w.grownBy w' (some g) := by
  have HG := hid hg
  clear hg
  go_enter Tryz.func25, Tryz.ntmps25
  go_wp2
  go_loopw [1, 5] (fun x y wr => ∃ (i : Nat) (cur : Array Value), x = .int .i64 ((k + 4 * i : Nat) : Int) ∧ y = .int .i64 (i : Int) ∧ i ≤ n ∧ Hid (wr.heap[g]? = some (.cells cur 69 (0, 0))) ∧ cur.size = cur0.size ∧ Hid (MarksH cur o i k) ∧ Hid (w.grownBy wr (some g))) (fun _ y _ => n - (intOf y).toNat)
  case atStart => exact ⟨0, cur0, rfl, rfl, Nat.zero_le _, HG.out, rfl, fun j h => by omega, World.grownBy.refl _ _⟩
  case round =>
    clear HG
    obtain ⟨i, cur, rfl, rfl, hi, HH, hcs, HM, HW⟩ := hrel
    by_cases hlt : i < n
    · have hin : (i : Int) < (n : Int) := by omega
      have C1 := fun w => u_cMarkText (k + 4 * i) (by omega) w
      have HM5 := hid (marksH_step hcs hlt ho HM.out)
      obtain ⟨K, hK⟩ : ∃ K, k + 4 * i = K := ⟨_, rfl⟩
      obtain ⟨X, hX⟩ : ∃ X, u_markS (k + 4 * i) = X := ⟨_, rfl⟩
      have HE := hid (show K + 4 = k + 4 * (i + 1) by omega)
      rw [hX] at C1 HM5
      rw [hK] at C1 HM5 ⊢
      have hKb : K ≤ 100000000 := by omega
      have hcz : o + i * 4 + 4 ≤ cur.size := by omega
      have HCZ := hid hcz
      clear hX hK hcz
      go_wp2_with fail
      refine (C1 _).mono ?_
      rintro e w2 ⟨rfl, hb2⟩
      have HW2 := hid (u_gr_below HW.out hb2)
      have H2 := hid (u_blk_below HH.out hb2)
      clear hb2 C1
      obtain ⟨o1, k1⟩ := u_cell_there H2.out (i := o + i * 4) (by have := HCZ.out; omega)
      have f1 : w2.frozen? ⟨g, o + i * 4, none⟩ = false := Lib.frozen_of_heap H2.out _
      have H3 := hid (u_heap_set (i := o + i * 4) H2.out (.string X))
      have HW3 := hid (u_gr_set HW2.out (o + i * 4) (.string X))
      obtain ⟨w3, hw3⟩ : ∃ w3, w2.setCell ⟨g, o + i * 4, none⟩ (.string X) = w3 := ⟨_, rfl⟩
      rw [hw3] at H3 HW3
      obtain ⟨o2, k2⟩ := u_cell_there H3.out (i := o + i * 4 + 1) (by simp; have := HCZ.out; omega)
      have f2 : w3.frozen? ⟨g, o + i * 4 + 1, none⟩ = false := Lib.frozen_of_heap H3.out _
      have H4 := hid (u_heap_set (i := o + i * 4 + 1) H3.out (.int .i64 ((K : Int) + 1)))
      have HW4 := hid (u_gr_set HW3.out (o + i * 4 + 1) (.int .i64 ((K : Int) + 1)))
      obtain ⟨w4, hw4⟩ : ∃ w4, w3.setCell ⟨g, o + i * 4 + 1, none⟩ (.int .i64 ((K : Int) + 1)) = w4 := ⟨_, rfl⟩
      rw [hw4] at H4 HW4
      obtain ⟨o3, k3⟩ := u_cell_there H4.out (i := o + i * 4 + 2) (by simp; have := HCZ.out; omega)
      have f3 : w4.frozen? ⟨g, o + i * 4 + 2, none⟩ = false := Lib.frozen_of_heap H4.out _
      have H5 := hid (u_heap_set (i := o + i * 4 + 2) H4.out (.int .i64 ((K : Int) + 1 + 1)))
      have HW5 := hid (u_gr_set HW4.out (o + i * 4 + 2) (.int .i64 ((K : Int) + 1 + 1)))
      obtain ⟨w5, hw5⟩ : ∃ w5, w4.setCell ⟨g, o + i * 4 + 2, none⟩ (.int .i64 ((K : Int) + 1 + 1)) = w5 := ⟨_, rfl⟩
      rw [hw5] at H5 HW5
      obtain ⟨o4, k4⟩ := u_cell_there H5.out (i := o + i * 4 + 3) (by simp; have := HCZ.out; omega)
      have f4 : w5.frozen? ⟨g, o + i * 4 + 3, none⟩ = false := Lib.frozen_of_heap H5.out _
      have H6 := hid (u_heap_set (i := o + i * 4 + 3) H5.out (.int .i64 ((K : Int) + 1 + 1 + 1)))
      have HW6 := hid (u_gr_set HW5.out (o + i * 4 + 3) (.int .i64 ((K : Int) + 1 + 1 + 1)))
      have eK1 : ((K + 1 : Nat) : Int) = (K : Int) + 1 := by omega
      have eK2 : ((K + 2 : Nat) : Int) = (K : Int) + 1 + 1 := by omega
      have eK3 : ((K + 3 : Nat) : Int) = (K : Int) + 1 + 1 + 1 := by omega
      rw [eK1, eK2, eK3] at HM5
      clear eK1 eK2 eK3
      have s1 : IntKind.i64.wrap ((K : Int) + 1) = (K : Int) + 1 := IntWalk.i64_in _ (by omega)
      have s2 : IntKind.i64.wrap ((K : Int) + 1 + 1) = (K : Int) + 1 + 1 := IntWalk.i64_in _ (by omega)
      have s3 : IntKind.i64.wrap ((K : Int) + 1 + 1 + 1) = (K : Int) + 1 + 1 + 1 := IntWalk.i64_in _ (by omega)
      go_wp2_with fail
      go_roundw
      case rel => exact ⟨i + 1, _, by rw [← HE.out]; go_num, by go_num, by omega, H6.out, by simp [hcs], HM5.out, HW6.out⟩
      case measure => simp [intOf]; omega
    · have hie : i = n := by omega
      subst hie
      go_wp2_with fail
      go_ret
      exact ⟨rfl, ⟨cur, HH.out, hcs, HM.out⟩, HW.out⟩

theorem hd_room {cu : Array Value} {o : Nat} {l : List Hd} (h : HdCells cu o l) (hl : 0 < l.length) : o + l.length * 4 ≤ cu.size := by
  have h1 := (h (l.length - 1) (by omega)).2.2.2
  have h2 : o + (l.length - 1) * 4 + 3 < cu.size := by
    rcases Nat.lt_or_ge (o + (l.length - 1) * 4 + 3) cu.size with h' | h'
    · exact h'
    · rw [Array.getElem?_eq_none h'] at h1
      cases h1
  omega

/-- The hands are marked. -/
def HeldH (w : World) (a : Option Addr) (n k : Nat) : Prop := 0 < n → ∃ g o cu, a = some ⟨g, o, none⟩ ∧ w.heap[g]? = some (.cells cu 69 (0, 0)) ∧ MarksH cu o n k

theorem HeldH.below {w w' : World} {a : Option Addr} {n k : Nat} (h : HeldH w a n k) (hb : Below w.heap.size w w') : HeldH w' a n k := fun hn => by
  obtain ⟨g, o, cu, e1, e2, e3⟩ := h hn
  exact ⟨g, o, cu, e1, u_blk_below e2 hb, e3⟩

/-- The block of a row. -/
def BlkOf (a : Option Addr) (n : Nat) : Nat → Prop := fun b => ∃ o, a = some ⟨b, o, none⟩ ∧ 0 < n

theorem cMarkHands (a : Option Addr) (cap B k : Nat) (l : List Hd) (w : World) (hO : OwnHd w B a l) (hk : k + 4 * l.length ≤ 100000000) :
    Calls Tryz.prog 25 #[.slice a l.length cap, .int .i64 k] w fun e w' => e = .returned (.int .i64 ((k + 4 * l.length : Nat) : Int)) ∧ HeldH w' a l.length k ∧ u_KeepB (BlkOf a l.length) w w' := by
  rcases Nat.eq_zero_or_pos l.length with h0 | h0
  · rw [h0]
    refine (cMarkHand0 a cap k w).mono ?_
    rintro e w' ⟨rfl, rfl⟩
    exact ⟨rfl, fun h => absurd h (Nat.lt_irrefl 0), u_KeepB.refl _ _⟩
  · obtain ⟨g, o, cu, rfl, e2, e3, e4⟩ := hO h0
    refine (cMarkHandS g o cap l.length k cu w e3 (hd_room e4 h0) hk).mono ?_
    rintro e w' ⟨rfl, ⟨cur, k1, _, k3⟩, hgr⟩
    exact ⟨rfl, fun _ => ⟨g, o, cur, rfl, k1, k3⟩, u_KeepB.of_grown (p := BlkOf (some ⟨g, o, none⟩) l.length) hgr ⟨o, rfl, h0⟩⟩

set_option maxRecDepth 8000 in
set_option maxHeartbeats 4000000 in
theorem cHeldHandS (a : Option Addr) (cap k : Nat) (l : List Hd) (w : World) (hR : HdRow w a l) (hm : ∀ j (h : j < l.length), l[j].iss = u_markS (k + 4 * j) ∧ l[j].n = ((k + 4 * j + 1 : Nat) : Int) ∧ l[j].e = ((k + 4 * j + 2 : Nat) : Int) ∧ l[j].d = ((k + 4 * j + 3 : Nat) : Int)) (hk : k + 4 * l.length ≤ 100000000) :
    Calls Tryz.prog 27 #[.slice a l.length cap, .int .i64 k] w fun e w' => e = .returned (.int .i64 ((k + 4 * l.length : Nat) : Int)) ∧ Below w.heap.size w w' := by
  have HR := hid hR
  have HM := hid hm
  clear hR hm
  obtain ⟨n, hnn⟩ : ∃ n, l.length = n := ⟨_, rfl⟩
  have HN := hid hnn
  rw [hnn] at hk ⊢
  clear hnn
  go_enter Tryz.func27, Tryz.ntmps27
  go_wp2
  go_loopw [1, 5] (fun x y wr => ∃ i : Nat, x = .int .i64 ((k + 4 * i : Nat) : Int) ∧ y = .int .i64 (i : Int) ∧ i ≤ n ∧ Hid (Below w.heap.size w wr)) (fun _ y _ => n - (intOf y).toNat)
  case atStart => exact ⟨0, rfl, rfl, Nat.zero_le _, Below.refl _ _⟩
  case round =>
    obtain ⟨i, rfl, rfl, hi, HB⟩ := hrel
    by_cases hlt : i < n
    · have his : i < l.length := by rw [HN.out]; exact hlt
      have hin : (i : Int) < (n : Int) := by omega
      obtain ⟨b, o, rfl, hb, c0, c1, c2, c3⟩ := HR.out.below HB.out i his
      obtain ⟨m0, m1, m2, m3⟩ := HM.out i his
      rw [m0] at c0
      rw [m1] at c1
      rw [m2] at c2
      rw [m3] at c3
      have C1 := fun w => u_cMarkText (k + 4 * i) (by omega) w
      have s1 := u_markS_size (k + 4 * i)
      obtain ⟨K, hK⟩ : ∃ K, k + 4 * i = K := ⟨_, rfl⟩
      obtain ⟨X, hX⟩ : ∃ X, u_markS (k + 4 * i) = X := ⟨_, rfl⟩
      have HE := hid (show K + 4 = k + 4 * (i + 1) by omega)
      rw [hX] at C1 c0 s1
      rw [hK] at C1 s1 c1 c2 c3 ⊢
      have hKb : K ≤ 100000000 := by omega
      have eK1 : ((K + 1 : Nat) : Int) = (K : Int) + 1 := by omega
      have eK2 : ((K + 2 : Nat) : Int) = (K : Int) + 1 + 1 := by omega
      have eK3 : ((K + 3 : Nat) : Int) = (K : Int) + 1 + 1 + 1 := by omega
      rw [eK1] at c1
      rw [eK2] at c2
      rw [eK3] at c3
      clear hX hK m0 m1 m2 m3 eK1 eK2 eK3
      have q0 : (X.toList != X.toList) = false := by simp
      have q1 : (((K : Int) + 1) != ((K : Int) + 1)) = false := by simp
      have q2 : (((K : Int) + 1 + 1) != ((K : Int) + 1 + 1)) = false := by simp
      have q3 : (((K : Int) + 1 + 1 + 1) != ((K : Int) + 1 + 1 + 1)) = false := by simp
      have t1 : IntKind.i64.wrap ((K : Int) + 1) = (K : Int) + 1 := IntWalk.i64_in _ (by omega)
      have t2 : IntKind.i64.wrap ((K : Int) + 1 + 1) = (K : Int) + 1 + 1 := IntWalk.i64_in _ (by omega)
      have t3 : IntKind.i64.wrap ((K : Int) + 1 + 1 + 1) = (K : Int) + 1 + 1 + 1 := IntWalk.i64_in _ (by omega)
      have HNB := hid (bw_any wr)
      obtain ⟨d1, d2⟩ := pair_bw hb c0 c1
      go_wp2_with fail
      haveI := HNB.out
      refine wp_region_below (by kernel_rfl) (by kernel_rfl) (Below.refl wr.heap.size wr) ?_
      repeat (go_big_quiet_step ((go_at_call 50; exact calls_bw _ (C1 _))))
      refine wpQuiet_nil ?_
      intro w2 hw'
      obtain ⟨⟨wx, hb2⟩, hw''⟩ := hw'
      subst hw''
      have HB2 := hid (bb HB.out hb2)
      have e1 : w2.cell? ⟨b, o + i * 4 + 1, none⟩ = some (.int .i64 ((K : Int) + 1)) := (hb2.cell (p := ⟨b, o + i * 4 + 1, none⟩) hb).trans c1
      have e2 : w2.cell? ⟨b, o + i * 4 + 2, none⟩ = some (.int .i64 ((K : Int) + 1 + 1)) := (hb2.cell (p := ⟨b, o + i * 4 + 2, none⟩) hb).trans c2
      have e3 : w2.cell? ⟨b, o + i * 4 + 3, none⟩ = some (.int .i64 ((K : Int) + 1 + 1 + 1)) := (hb2.cell (p := ⟨b, o + i * 4 + 3, none⟩) hb).trans c3
      clear this HNB d1 d2 c0 c1 c2 c3 C1 hb2
      go_wp2_with fail
      go_roundw
      case rel => exact ⟨i + 1, by rw [← HE.out]; go_num, by go_num, by omega, HB2.out⟩
      case measure => simp [intOf]; omega
    · have hie : i = n := by omega
      subst hie
      go_wp2_with fail
      go_ret
      exact ⟨rfl, HB.out⟩

/-- The marked hands. -/
def markH (n k : Nat) : List Hd := (List.range n).map fun j => ⟨u_markS (k + 4 * j), ((k + 4 * j + 1 : Nat) : Int), ((k + 4 * j + 2 : Nat) : Int), ((k + 4 * j + 3 : Nat) : Int)⟩

theorem markH_len (n k : Nat) : (markH n k).length = n := by unfold markH; rw [List.length_map, List.length_range]

theorem markH_at (n k j : Nat) (h : j < (markH n k).length) : (markH n k)[j] = ⟨u_markS (k + 4 * j), ((k + 4 * j + 1 : Nat) : Int), ((k + 4 * j + 2 : Nat) : Int), ((k + 4 * j + 3 : Nat) : Int)⟩ := by
  simp [markH]

theorem HeldH.row {w : World} {a : Option Addr} {n k : Nat} (h : HeldH w a n k) : HdRow w a (markH n k) := fun j hj => by
  have hj' : j < n := by rw [markH_len] at hj; exact hj
  obtain ⟨g, o, cu, e1, e2, e3⟩ := h (by omega)
  rw [markH_at]
  obtain ⟨r0, r1, r2, r3⟩ := e3 j hj'
  exact ⟨g, o, e1, lt_of_heap e2, by rw [Lib.cell_of_heap e2]; exact r0, by rw [Lib.cell_of_heap e2]; exact r1, by rw [Lib.cell_of_heap e2]; exact r2, by rw [Lib.cell_of_heap e2]; exact r3⟩

theorem cHeldHands (a : Option Addr) (cap n k : Nat) (w : World) (hH : HeldH w a n k) (hk : k + 4 * n ≤ 100000000) :
    Calls Tryz.prog 27 #[.slice a n cap, .int .i64 k] w fun e w' => e = .returned (.int .i64 ((k + 4 * n : Nat) : Int)) ∧ Below w.heap.size w w' := by
  have h := cHeldHandS a cap k (markH n k) w hH.row (fun j hj => by rw [markH_at]; exact ⟨rfl, rfl, rfl, rfl⟩) (by rw [markH_len]; exact hk)
  rw [markH_len] at h
  exact h

/-- The rows are marked. -/
def HeldK (w : World) (a : Option Addr) (n k : Nat) : Prop := 0 < n → ∃ g o cu, a = some ⟨g, o, none⟩ ∧ w.heap[g]? = some (.cells cu 78 (0, 0)) ∧ MarksR cu o n k

theorem HeldK.below {w w' : World} {a : Option Addr} {n k : Nat} (h : HeldK w a n k) (hb : Below w.heap.size w w') : HeldK w' a n k := fun hn => by
  obtain ⟨g, o, cu, e1, e2, e3⟩ := h hn
  exact ⟨g, o, cu, e1, u_blk_below e2 hb, e3⟩

set_option maxHeartbeats 4000000 in
theorem cMarkTableK (t : Tb) (a : Option Addr) (cap B k : Nat) (w : World) (hO : OwnRo w B a t.rows) (hn : k + 2 * t.rows.length ≤ 100000000) :
    Calls Tryz.prog 26 #[tbV t a cap, .int .i64 k] w fun e w' => e = .returned (.int .i64 ((k + 2 * t.rows.length : Nat) : Int)) ∧ HeldK w' a t.rows.length k ∧ u_KeepB (BlkOf a t.rows.length) w w' := by
  have HB0 := hid ((Below.refl w.heap.size w).alloc (Nat.le_refl _) (.cells #[.int .i64 t.most, .slice a t.rows.length cap] 32))
  have HO := hid hO
  unfold tbV
  clear hO
  rcases Nat.eq_zero_or_pos t.rows.length with h0 | h0
  · have CM := hid (fun wx => cMarkRow0 a cap k wx)
    rw [h0] at HB0 hn ⊢
    go_enter Tryz.func26, Tryz.ntmps26
    go_wp2_with fail
    refine (CM.out _).mono ?_
    rintro e w1 ⟨rfl, rfl⟩
    go_wp2_with fail
    go_ret
    exact ⟨rfl, fun h => absurd h (Nat.lt_irrefl 0), u_KeepB.of_below _ HB0.out⟩
  · obtain ⟨g, o, cu, e1, e2, e3, e4⟩ := HO.out h0
    subst e1
    have CM := hid (cMarkRowS g o cap t.rows.length k cu (w.alloc (.cells #[.int .i64 t.most, .slice (some ⟨g, o, none⟩) t.rows.length cap] 32)) (u_blk_below e3 HB0.out) (ro_room e4 h0) hn)
    have H0 := hid h0
    clear e2 e3 e4 HO h0
    obtain ⟨n, hnn⟩ : ∃ n, t.rows.length = n := ⟨_, rfl⟩
    rw [hnn] at CM HB0 hn H0 ⊢
    clear hnn
    generalize t.most = m at *
    obtain ⟨K, hK⟩ : ∃ K, k + 2 * n = K := ⟨_, rfl⟩
    rw [hK] at CM ⊢
    clear hK
    go_enter Tryz.func26, Tryz.ntmps26
    go_wp2_with fail
    refine CM.out.mono ?_
    rintro e w1 ⟨rfl, hm, hgr⟩
    have HH := hid (show HeldK w1 (some ⟨g, o, none⟩) n k from fun _ => by
      obtain ⟨cur, k1, _, k3⟩ := hm
      exact ⟨g, o, cur, rfl, k1, k3⟩)
    have HK := hid ((u_KeepB.of_below (BlkOf (some ⟨g, o, none⟩) n) HB0.out).trans (u_KeepB.of_grown (p := BlkOf (some ⟨g, o, none⟩) n) hgr ⟨o, rfl, H0.out⟩))
    clear hgr CM hm
    go_wp2_with fail
    go_ret
    exact ⟨rfl, HH.out, HK.out⟩

/-- The marked rows. -/
def markK (n k : Nat) : List Ro := (List.range n).map fun j => ⟨u_markS (k + 2 * j), ((k + 2 * j + 1 : Nat) : Int)⟩

theorem markK_len (n k : Nat) : (markK n k).length = n := by unfold markK; rw [List.length_map, List.length_range]

theorem markK_at (n k j : Nat) (h : j < (markK n k).length) : (markK n k)[j] = ⟨u_markS (k + 2 * j), ((k + 2 * j + 1 : Nat) : Int)⟩ := by
  simp [markK]

theorem HeldK.row {w : World} {a : Option Addr} {n k : Nat} (h : HeldK w a n k) : RoRow w a (markK n k) := fun j hj => by
  have hj' : j < n := by rw [markK_len] at hj; exact hj
  obtain ⟨g, o, cu, e1, e2, e3⟩ := h (by omega)
  rw [markK_at]
  exact ⟨g, o, e1, lt_of_heap e2, by rw [Lib.cell_of_heap e2]; exact (e3 j hj').1, by rw [Lib.cell_of_heap e2]; exact (e3 j hj').2⟩

set_option maxHeartbeats 4000000 in
theorem cHeldTableK (t : Tb) (a : Option Addr) (cap k : Nat) (w : World) (hH : HeldK w a t.rows.length k) (hn : k + 2 * t.rows.length ≤ 100000000) :
    Calls Tryz.prog 28 #[tbV t a cap, .int .i64 k] w fun e w' => e = .returned (.int .i64 ((k + 2 * t.rows.length : Nat) : Int)) ∧ Below w.heap.size w w' := by
  have HB0 := hid ((Below.refl w.heap.size w).alloc (Nat.le_refl _) (.cells #[.int .i64 t.most, .slice a t.rows.length cap] 32))
  have CH := hid (fun (wx : World) (h : Below w.heap.size w wx) => cHeldRowS a cap k (markK t.rows.length k) wx ((hH.below h).row) (fun j hj => by rw [markK_at]; exact ⟨rfl, rfl⟩) (by rw [markK_len]; exact hn))
  rw [markK_len] at CH
  unfold tbV
  clear hH
  obtain ⟨n, hnn⟩ : ∃ n, t.rows.length = n := ⟨_, rfl⟩
  rw [hnn] at CH HB0 hn ⊢
  clear hnn
  generalize t.most = m at *
  obtain ⟨K, hK⟩ : ∃ K, k + 2 * n = K := ⟨_, rfl⟩
  rw [hK] at CH ⊢
  clear hK
  have hd : decide ((K : Int) < 0) = false := by simp
  go_enter Tryz.func28, Tryz.ntmps28
  go_wp2_with fail
  refine (CH.out _ HB0.out).mono ?_
  rintro e w1 ⟨rfl, hb1⟩
  have HB1 := hid (bb HB0.out hb1)
  clear hb1 CH
  go_wp2_with fail
  go_ret
  exact ⟨rfl, HB1.out⟩

end Go.Proofs.YtnjepdggefchnaaGreatDoor
