/- container/heap.Pop over the rows. -/
import Derived.Test.YtnddphmcagcdiaaUHPush
namespace Go.Proofs.Ytnddphmcagcdiaa
open Go.RowKit
set_option linter.unusedVariables false
set_option linter.unusedSimpArgs false

theorem pop_down {l : List Ro} {n : Nat} (hl : l.length = n + 1) (h : HeapF (keyF l) l.length) (h0 : 0 < l.length) (hn : n < l.length) : DownOk (keyF (swR l 0 n h0 hn)) n 0 := by
  refine down_start (fun k hk hk0 hne => ?_)
  rw [swR_key, swF_o hne (by omega), swF_o (by omega) (by omega)]
  exact h k (by omega) hk0

theorem pop_end {l l2 : List Ro} {n : Nat} (hl : l.length = n + 1) (h0 : 0 < l.length) (hn : n < l.length) (hp : l2.Perm (swR l 0 n h0 hn)) (hh : HeapF (keyF l2) n) (ht : ∀ k, n ≤ k → l2[k]? = (swR l 0 n h0 hn)[k]?) :
    (l2.take n ++ [l[0]]).Perm l ∧ HeapF (keyF (l2.take n)) (l2.take n).length ∧ (l2.take n).length = n := by
  have hlen : l2.length = n + 1 := by rw [hp.length_eq, swR_len, hl]
  have e : l2[n]? = some l[0] := by
    rw [ht n (Nat.le_refl _), List.getElem?_eq_getElem (by rw [swR_len]; exact hn), swR_get]
    by_cases q : n = 0
    · subst q
      simp
    · rw [if_neg q, if_pos rfl]
  have e2 : l2.take n ++ [l[0]] = l2 := by
    have := List.take_add_one (l := l2) (i := n)
    rw [e, List.take_of_length_le (by omega)] at this
    exact this.symm
  have e3 : (l2.take n).length = n := by rw [List.length_take]; omega
  refine ⟨?_, ?_, e3⟩
  · rw [e2]
    exact hp.trans (swR_perm l 0 n h0 hn)
  · rw [e3]
    intro k hk hk0
    have f : ∀ q, q < n → keyF (l2.take n) q = keyF l2 q := fun q hq => by
      rw [keyF_lt (by omega), keyF_lt (by omega), List.getElem_take]
    rw [f _ (by omega), f _ hk]
    exact hh k hk hk0

set_option maxRecDepth 8000 in
set_option maxHeartbeats 8000000 in
theorem cHPop (B R g c n : Nat) (l : List Ro) (w : World) (hW : Wt w B R g c l) (hl : l.length = n + 1) (h0 : 0 < l.length) (hRB : R < B) (hBg : B ≤ g) (hB : B ≤ w.heap.size) (hn : l.length ≤ 90000) (hH : HeapF (keyF l) l.length) :
    Calls Try.prog 25 #[.iface 51 (.pointer (some ⟨R, 0, none⟩))] w fun e w' => ∃ v : Value, e = .returned v ∧ ∃ m : List Ro, (m ++ [l[0]]).Perm l ∧ HeapF (keyF m) m.length ∧ m.length = n ∧ Wt w' B R g c m ∧ Below R w w' := by
  have hnl : n < l.length := by omega
  have nn := fun wx => nil_len R wx
  have ns := fun wx => nil_swap R wx
  have np := fun wx => nil_pop R wx
  have mp := fun wx => meth_pop R wx
  have ml := meth_len R _ w (u_box1c hW.box)
  have ms := meth_swap R _ w (u_box1c hW.box)
  have HW1 := hid (hW.swap 0 n h0 hnl)
  have HD := hid (pop_down hl hH h0 hnl)
  have HEND := hid (fun l2 => pop_end (l2 := l2) hl h0 hnl)
  have CS := hid (by
    obtain ⟨cu, hh, hcu⟩ := hW.cells h0
    obtain ⟨q0, q1⟩ := hcu 0 h0
    obtain ⟨q2, q3⟩ := hcu n hnl
    rw [Nat.zero_add] at q0 q1 q2 q3
    exact cWSwap g c (n + 1) 0 n l[0].id l[n].id l[0].til l[n].til w (by rw [Lib.cell_of_heap hh]; exact q0) (by rw [Lib.cell_of_heap hh]; exact q1) (by rw [Lib.cell_of_heap hh]; exact q2) (by rw [Lib.cell_of_heap hh]; exact q3) (fun o => Lib.frozen_of_heap hh _) (by omega) (by omega))
  have HKP := hid (swW_keep w g 0 n l[0].id l[n].id l[0].til l[n].til)
  have hw1 : IntKind.i64.wrap (n : Int) = (n : Int) := IntWalk.i64_in _ (by omega)
  have CD := hid (cDown B R g c n _ _ HW1.out (by rw [swR_len]; omega) HD.out (by rw [swR_len]; omega))
  have HRS := hid (lt_of_heap hW.box)
  rw [hl] at ml ms
  have e1 : ((n + 1 : Nat) : Int) = (n : Int) + 1 := rfl
  obtain ⟨w1, hw⟩ : ∃ w1, swW w g 0 n l[0].id l[n].id l[0].til l[n].til = w1 := ⟨_, rfl⟩
  rw [hw] at CS CD HW1 HKP
  clear hw hW hH
  go_enter Try.func25, Try.ntmps25
  go_wp2_with fail
  refine (cWLen _ _ _ _).mono ?_
  rintro e w2 ⟨rfl, rfl⟩
  go_wp2_with fail
  refine CS.out.mono ?_
  rintro e w3 ⟨rfl, rfl⟩
  clear ml ms
  go_wp2_with fail
  refine CD.out.mono ?_
  rintro e w4 ⟨v4, rfl, l2, hp, ⟨hq1, hq2⟩, hwt, hk⟩
  obtain ⟨z1, z2, z3⟩ := HEND.out l2 hp hq1 hq2
  have hl2 : l2.length = n + 1 := by rw [hp.length_eq, swR_len, hl]
  have CPp := hid (cWPop B R g c n l2 w4 hwt hl2 hRB (Nat.le_trans hB (Nat.le_trans HKP.out.size hk.size)) (by omega))
  have HZ := hid (And.intro z1 (And.intro z2 z3))
  have HBL := hid ((HKP.out.below (B := R) (Nat.le_of_lt HRS.out) (fun k e => by omega)).trans (hk.below (B := R) (Nat.le_trans (Nat.le_of_lt HRS.out) HKP.out.size) (fun k e => by omega)))
  clear hp hq1 hq2 hwt hk z1 z2 z3 hl2 CD CS HD HEND HW1 HKP
  go_wp2_with fail
  refine CPp.out.mono ?_
  rintro e w5 ⟨v5, rfl, hwt5, hb5⟩
  have HF := hid (And.intro hwt5 (HBL.out.trans hb5))
  clear hwt5 hb5 CPp
  go_wp2_with fail
  go_ret
  first
    | exact ⟨_, HZ.out.1, HZ.out.2.1, HZ.out.2.2, HF.out⟩
    | exact ⟨_, rfl, _, HZ.out.1, HZ.out.2.1, HZ.out.2.2, HF.out⟩
    | exact ⟨⟨_, rfl⟩, _, HZ.out.1, HZ.out.2.1, HZ.out.2.2, HF.out⟩

end Go.Proofs.Ytnddphmcagcdiaa
