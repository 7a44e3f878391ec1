/- Contract of the program's TimeOf. -/
import Derived.Test.YtbphbjkmgmgpkaaDoorTOfN
import Derived.Test.YtbphbjkmgmgpkaaDoorTTextS
import Derived.Deep.RegionWith
namespace Go.Proofs.YtbphbjkmgmgpkaaDoor
open Go.RowKit
set_option linter.unusedVariables false
set_option linter.unusedSimpArgs false

set_option maxHeartbeats 4000000 in
theorem cNumbers_no (u : ByteArray) (w : World) (hu : ¬ u.size = 20) :
    Calls Tryd.prog 26 #[.string u] w fun e w' => e = .returned (.tuple #[.agg (cellsN fun _ => 0), .bool false]) ∧ Below w.heap.size w w' := by
  have hul : ¬ (u.size : Int) = 20 := by omega
  go_enter Tryd.func26, Tryd.ntmps26
  go_wp2_with fail
  refine bodyPost_ret (v := .tuple #[.agg (cellsN fun _ => 0), .bool false]) ?_ rfl ⟨rfl, ?_⟩
  · exact res_row w (fun _ => 0) (fun _ => 0) _ _ rfl rfl
  · exact ((Below.refl _ _).alloc (Nat.le_refl _) _).alloc (by simp) _

theorem field_len (l : List UInt8) (q : Nat) : (fieldL l q).length ≤ 4 := by
  unfold fieldL
  have := (wid_le q).1
  simp
  omega

theorem rd_small (l : List UInt8) (q : Nat) : rdI (fieldL l q) < 10000 := by
  have h1 := (rdI_bounds (fieldL l q)).2
  have h2 : (10 : Nat) ^ (fieldL l q).length ≤ 10 ^ 4 := Nat.pow_le_pow_right (by decide) (field_len l q)
  have h3 : ((10 ^ (fieldL l q).length : Nat) : Int) = (10 : Int) ^ (fieldL l q).length := by simp
  have h4 : (10 : Nat) ^ 4 = 10000 := by decide
  omega

/-- The two ends. -/
theorem cOfI_no20 (u : ByteArray) (w : World) (hu : ¬ u.size = 20) :
    Calls Tryd.prog 11 #[.string u] w fun e w' => e = .returned (.tuple #[.int .i64 0, .bool false]) ∧ Below w.heap.size w w' := by
  have C := cNumbers_no u w hu
  unfold cellsN at C
  clear hu
  go_enter Tryd.func11, Tryd.ntmps11
  go_wp2_with fail
  refine C.mono ?_
  rintro e w1 ⟨rfl, hb1⟩
  go_wp2_with fail
  go_ret2
  exact ⟨rfl, hb1.alloc hb1.size _⟩

theorem cell6 {w1 W : World} {b0 b1 b2 b3 b4 b5 : Int} (hb : Below (w1.heap.size + 1) (w1.alloc (.cells #[.int .i64 b0, .int .i64 b1, .int .i64 b2, .int .i64 b3, .int .i64 b4, .int .i64 b5] 46)) W) :
    W.cell? ⟨w1.heap.size, 0, none⟩ = some (.int .i64 b0) ∧ W.cell? ⟨w1.heap.size, 1, none⟩ = some (.int .i64 b1) ∧ W.cell? ⟨w1.heap.size, 2, none⟩ = some (.int .i64 b2) ∧ W.cell? ⟨w1.heap.size, 3, none⟩ = some (.int .i64 b3) ∧ W.cell? ⟨w1.heap.size, 4, none⟩ = some (.int .i64 b4) ∧ W.cell? ⟨w1.heap.size, 5, none⟩ = some (.int .i64 b5) := by
  have hh : W.heap[w1.heap.size]? = some (.cells #[.int .i64 b0, .int .i64 b1, .int .i64 b2, .int .i64 b3, .int .i64 b4, .int .i64 b5] 46 (0, 0)) := by
    rw [hb.block _ (by omega)]
    exact heap_alloc_last w1 _
  refine ⟨?_, ?_, ?_, ?_, ?_, ?_⟩ <;> (rw [cell_of_row _ _ _ _ _ _ hh]; rfl)

set_option maxHeartbeats 8000000 in
set_option maxRecDepth 4000 in
theorem cOfI_20 (u : ByteArray) (w : World) (hu : u.size = 20) (hL : Laid w) :
    Calls Tryd.prog 11 #[.string u] w fun e w' => e = .returned (.tuple #[.int .i64 (timeOf u.data.toList).1, .bool (timeOf u.data.toList).2]) ∧ Below w.heap.size w w' := by
  have HL : Hid (Laid w) := hL
  have HU : Hid (u.size = 20) := hu
  have C := cNumbers u w hu
  obtain ⟨l, hl⟩ : ∃ l, u.data.toList = l := ⟨_, rfl⟩
  have Hl : Hid (u.data.toList = l) := hl
  rw [hl] at C ⊢
  obtain ⟨T, hT⟩ : ∃ T : Int × Bool, timeOf l = T := ⟨_, rfl⟩
  have HT : Hid (timeOf l = T) := hT
  rw [hT]
  obtain ⟨T1, T2⟩ := T
  clear hl hT hu hL
  go_enter Tryd.func11, Tryd.ntmps11
  go_wp2_with fail
  refine C.mono ?_
  rintro e w1 ⟨g, ok, rfl, hok, hno, hb1⟩
  unfold cellsN
  cases ok
  · obtain ⟨q, hq, hr⟩ := hno rfl
    have hbad := timeOf_bad (l := l) (fun h => by
      obtain ⟨⟨k, m, _, _, _, h0, h1, h2, _⟩, h3, h4, h5⟩ := h
      rcases (show q = 0 ∨ q = 1 ∨ q = 2 ∨ q = 3 ∨ q = 4 ∨ q = 5 by omega) with rfl | rfl | rfl | rfl | rfl | rfl <;> omega)
    rw [HT.out] at hbad
    cases hbad
    clear hok hno hr HT
    go_wp2_with fail
    go_ret2
    exact ⟨rfl, hb1.alloc hb1.size _⟩
  · replace hok := hok rfl
    obtain ⟨e0, p0⟩ := hok 0 (by omega)
    obtain ⟨e1, p1⟩ := hok 1 (by omega)
    obtain ⟨e2, p2⟩ := hok 2 (by omega)
    obtain ⟨e3, p3⟩ := hok 3 (by omega)
    obtain ⟨e4, p4⟩ := hok 4 (by omega)
    obtain ⟨e5, p5⟩ := hok 5 (by omega)
    have s2 := rd_small l 2
    have s3 := rd_small l 3
    have s4 := rd_small l 4
    have s5 := rd_small l 5
    rw [← e2] at s2
    rw [← e3] at s3
    rw [← e4] at s4
    rw [← e5] at s5
    clear hok hno
    generalize g 0 = b0 at *
    generalize g 1 = b1 at *
    generalize g 2 = b2 at *
    generalize g 3 = b3 at *
    generalize g 4 = b4 at *
    generalize g 5 = b5 at *
    obtain ⟨w2, hw2⟩ : ∃ w2, w1.alloc (.cells #[.int .i64 b0, .int .i64 b1, .int .i64 b2, .int .i64 b3, .int .i64 b4, .int .i64 b5] 46) = w2 := ⟨_, rfl⟩
    have hB2 : Below w.heap.size w w2 := by rw [← hw2]; exact hb1.alloc hb1.size _
    have hz2 : w2.heap.size = w1.heap.size + 1 := by rw [← hw2]; simp
    have K : ∀ W, Below w2.heap.size w2 W → _ := fun W hb => cell6 (w1 := w1) (W := W) (b0 := b0) (b1 := b1) (b2 := b2) (b3 := b3) (b4 := b4) (b5 := b5) (by rw [hw2, ← hz2]; exact hb)
    have CD := cDaysI b0 b1 w2 (HL.out.below hB2).1
    have HW2 : Hid (w1.alloc (.cells #[.int .i64 b0, .int .i64 b1, .int .i64 b2, .int .i64 b3, .int .i64 b4, .int .i64 b5] 46) = w2) := hw2
    by_cases hin : (2000 ≤ b0 ∧ b0 ≤ 2099) ∧ (1 ≤ b1 ∧ b1 ≤ 12)
    · obtain ⟨k, hk0⟩ : ∃ k : Nat, b0 = (2000 + k : Nat) := ⟨b0.toNat - 2000, by omega⟩
      obtain ⟨m, hm0⟩ : ∃ m : Nat, b1 = m := ⟨b1.toNat, by omega⟩
      have hk : k < 100 := by omega
      have hm1 : 1 ≤ m := by omega
      have hm2 : m ≤ 12 := by omega
      have hcand := timeOf_cand (l := l) hk (by rw [← e0, hk0]; omega) (by rw [← e1, hm0]) e2.symm e3.symm e4.symm e5.symm (by rw [← Hl.out, ← sz]; exact HU.out)
      unfold cand at hcand
      rw [HT.out] at hcand
      have CA := fun W hM => cAhead k m W hk hm1 hm2 hM
      rw [← hk0, ← hm0] at CA
      rw [hk0, hm0, daysIn_in k m hk hm1 hm2, ← hk0, ← hm0] at CD
      have hD1 : 28 ≤ dm (lp k) m := (dm_pos _ _ hm1 hm2).1
      have hSb : yb k + mb (lp k) m ≤ 40000 := by
        have h1 := mb_lt_13 (lp k) m hm1 hm2
        have h2 : yb k ≤ 36525 := by unfold yb; omega
        have h3 : lp k ≤ 1 := by unfold lp; split <;> omega
        omega
      generalize dm (lp k) m = D at *
      generalize yb k + mb (lp k) m = S at *
      obtain ⟨c, hc⟩ : ∃ c : Int, ((S : Int) + b2 - 1) * 86400 + b3 * 3600 + b4 * 60 + b5 = c := ⟨_, rfl⟩
      rw [hc] at hcand
      have r1 : IntKind.i64.wrap ((S : Int) + b2) = (S : Int) + b2 := IntWalk.i64_in _ (by omega)
      have r2 : IntKind.i64.wrap ((S : Int) + b2 - 1) = (S : Int) + b2 - 1 := IntWalk.i64_in _ (by omega)
      obtain ⟨ds, hds⟩ : ∃ ds : Int, (S : Int) + b2 - 1 = ds := ⟨_, rfl⟩
      rw [hds] at r2 hc
      have hds1 : -1 ≤ ds := by omega
      have hds2 : ds ≤ 60000 := by omega
      have r3 : IntKind.i64.wrap (ds * 86400) = ds * 86400 := IntWalk.i64_in _ (by omega)
      have r4 : IntKind.i64.wrap (b3 * 3600) = b3 * 3600 := IntWalk.i64_in _ (by omega)
      have r5 : IntKind.i64.wrap (ds * 86400 + b3 * 3600) = ds * 86400 + b3 * 3600 := IntWalk.i64_in _ (by omega)
      have r6 : IntKind.i64.wrap (b4 * 60) = b4 * 60 := IntWalk.i64_in _ (by omega)
      have r7 : IntKind.i64.wrap (ds * 86400 + b3 * 3600 + b4 * 60) = ds * 86400 + b3 * 3600 + b4 * 60 := IntWalk.i64_in _ (by omega)
      have r8 : IntKind.i64.wrap (ds * 86400 + b3 * 3600 + b4 * 60 + b5) = ds * 86400 + b3 * 3600 + b4 * 60 + b5 := IntWalk.i64_in _ (by omega)
      have hDi : ((D : Int) == 0) = false := by rw [beq_eq_false_iff_ne]; omega
      have HB2 : Hid (Below w.heap.size w w2) := hB2
      have HK : Hid (∀ W, Below w2.heap.size w2 W → _) := K
      have HCd : Hid ((T1, T2) = if textOf c = l then (c, true) else (0, false)) := hcand
      have HC : Hid (ds * 86400 + b3 * 3600 + b4 * 60 + b5 = c) := hc
      clear hw2 hz2 K hin e0 e1 e2 e3 e4 e5 p0 p1 hcand HT hB2 hc hk0 hm0 hk hm1 hm2 hSb hD1
      go_wp2_with fail
      rw [HW2.out]
      refine CD.mono ?_
      rintro e w3 ⟨rfl, hb3⟩
      have HB3 : Hid (Below w2.heap.size w2 w3) := hb3
      have hM3 : Mon w3 := ((HL.out.below HB2.out).1).below hb3
      have HM3 : Hid (Mon w3.drew) := hM3.below ((Below.refl _ _).drew)
      obtain ⟨k0, k1, k2, k3, k4, k5⟩ := HK.out w3 hb3
      clear hb3 hM3 CD
      go_wp2_with fail
      go_region_with (go_at_call 27; refine (CA _ HM3.out).mono ?_; rintro e w4 ⟨rfl, hb4⟩; have hb24 : Below w2.heap.size w2 w4 := ((HB3.out).drew).trans (hb4.mono HB3.out.size); obtain ⟨j0, j1, j2, j3, j4, j5⟩ := HK.out w4 hb24; have HB24 : Hid (Below w2.heap.size w2 w4) := hb24; clear hb4 hb24)
      all_goals
        clear CA r1 hds1 hds2
        have CT := cTextI c w4 ((HL.out.below HB2.out).below HB24.out)
        have hBw := HB2.out.trans (HB24.out.mono HB2.out.size)
        have hcd := HCd.out
        rw [← HC.out] at CT
        by_cases hcc : textOf c = l
        · rw [if_pos hcc, ← HC.out] at hcd
          rw [HC.out] at CT
          rw [hcc, ← Hl.out] at CT
          rw [← HC.out] at CT
          cases hcd
          go_wp2_with fail
          refine CT.mono ?_
          rintro e w5 ⟨rfl, hb5⟩
          go_wp2_with fail
          go_ret2
          exact ⟨rfl, hBw.trans (hb5.mono hBw.size)⟩
        · rw [if_neg hcc] at hcd
          cases hcd
          obtain ⟨X, hX⟩ : ∃ X : ByteArray, (⟨(textOf c).toArray⟩ : ByteArray) = X := ⟨_, rfl⟩
          have hne : (X.toList == u.toList) = false := by
            rw [ByteArray.toList_eq, ByteArray.toList_eq, ← hX, Hl.out]
            rw [beq_eq_false_iff_ne]
            exact hcc
          rw [HC.out, hX, ← HC.out] at CT
          clear hX
          go_wp2_with fail
          refine CT.mono ?_
          rintro e w5 ⟨rfl, hb5⟩
          go_wp2_with fail
          go_ret2
          exact ⟨rfl, hBw.trans (hb5.mono hBw.size)⟩
    · rw [show daysIn b0 b1 = 0 from if_neg hin] at CD
      have hbad := timeOf_bad (l := l) (fun h => by
        obtain ⟨⟨k, m, _, _, _, h0, h1, h2, _⟩, h3, h4, h5⟩ := h
        omega)
      rw [HT.out] at hbad
      cases hbad
      have hB2s := hB2
      clear hw2 hz2 K hin e0 e1 e2 e3 e4 e5 p0 p1 p2 p3 p4 p5 s2 s3 s4 s5 HT hB2
      go_wp2_with fail
      rw [HW2.out]
      refine CD.mono ?_
      rintro e w3 ⟨rfl, hb3⟩
      go_wp2_with fail
      go_ret2
      exact ⟨rfl, hB2s.trans (hb3.mono hB2s.size)⟩

theorem cOfI (u : ByteArray) (w : World) (hL : Laid w) :
    Calls Tryd.prog 11 #[.string u] w fun e w' => e = .returned (.tuple #[.int .i64 (timeOf u.data.toList).1, .bool (timeOf u.data.toList).2]) ∧ Below w.heap.size w w' := by
  by_cases h : u.size = 20
  · exact cOfI_20 u w h hL
  · rw [timeOf_len (by rw [← sz]; exact h)]
    exact cOfI_no20 u w h

end Go.Proofs.YtbphbjkmgmgpkaaDoor
