/- Contract of the program's date of a day. -/
import Derived.Test.YtbphbjkmgmgpkaaDoorTDays
namespace Go.Proofs.YtbphbjkmgmgpkaaDoor
open Go.RowKit
set_option linter.unusedVariables false
set_option linter.unusedSimpArgs false

theorem mb_lt_13 (l m : Nat) (h1 : 1 ≤ m) (h2 : m ≤ 12) : mb l m + dm l m ≤ 365 + l := by
  rw [← mb_succ l m h1 h2]
  rcases Nat.lt_or_ge m 12 with hm | hm
  · have := mb_le l (m + 1) (by omega) (by omega) (13 - (m + 1)) (by omega)
    rw [show m + 1 + (13 - (m + 1)) = 13 by omega, mb_13] at this
    exact this
  · have : m = 12 := by omega
    subst this
    exact Nat.le_of_eq (mb_13 l)

theorem month_lt {l m r R : Nat} (h1 : 1 ≤ m) (h2 : m ≤ 12) (he : r + mb l m = R) (hR : R < 365 + l) (hd : dm l m ≤ r) : m < 12 := by
  rcases Nat.lt_or_ge m 12 with hm | hm
  · exact hm
  · have : m = 12 := by omega
    subst this
    simp only [mb, dm] at he hd
    omega

set_option maxHeartbeats 4000000 in
theorem cDateOf (d : Nat) (w : World) (hd : d < 36525) (hM : Mon w) :
    Calls Tryd.prog 22 #[.int .i64 d] w fun e w' => ∃ k m dd : Nat, e = .returned (.tuple #[.int .i64 (2000 + k : Nat), .int .i64 m, .int .i64 dd]) ∧ IsDate d k m dd ∧ Below w.heap.size w w' := by
  have HM : Hid (Mon w) := hM
  clear hM
  go_enter Tryd.func22, Tryd.ntmps22
  go_wp2
  go_loopw [0, 5] (fun day year wr => ∃ r k : Nat, day = .int .i64 (r : Int) ∧ year = .int .i64 ((2000 + k : Nat) : Int) ∧ r + yb k = d ∧ Below w.heap.size w wr) (fun day _ _ => (intOf day).toNat)
  case atStart => exact ⟨d, 0, rfl, rfl, by simp [yb], Below.refl _ _⟩
  case round =>
    obtain ⟨r, k, rfl, rfl, hr, hB⟩ := hrel
    have hk : k < 100 := yb_lt_inv (by omega)
    have hMr : Mon wr := HM.out.below hB
    have A1 := cMonthsOf k wr (by omega) hMr
    have A2 := fun wx hb => cDays k wx (hMr.below hb)
    have HR : Hid (r + yb k = d) := hr
    have HB : Hid (Below w.heap.size w wr) := hB
    have hyr : r ≤ 36525 := by omega
    clear hr hMr hB
    obtain ⟨L, hL⟩ : ∃ L : Nat, 365 + lp k = L := ⟨_, rfl⟩
    have HL : Hid (365 + lp k = L) := hL
    have hL1 : 365 ≤ L := by omega
    have hL2 : L ≤ 366 := by rw [← hL]; unfold lp; split <;> omega
    rw [hL] at A2
    clear hL
    obtain ⟨y, hy⟩ : ∃ y : Int, ((2000 + k : Nat) : Int) = y := ⟨_, rfl⟩
    have HY : Hid (((2000 + k : Nat) : Int) = y) := hy
    have hy1 : 2000 ≤ y := by omega
    have hy2 : y ≤ 2099 := by omega
    obtain ⟨C, hC⟩ : ∃ C : Array Value, monC k = C := ⟨_, rfl⟩
    rw [hy, hC] at A1
    rw [hC] at A2
    rw [hy]
    clear hy hC
    by_cases hlt : L ≤ r
    · go_wp2_with fail
      refine A1.mono ?_
      rintro e w1 ⟨rfl, hb1⟩
      go_wp2_with fail
      refine (A2 w1 hb1).mono ?_
      rintro e w2 ⟨rfl, hb2⟩
      have hB2 : Below w.heap.size w w2 := HB.out.trans ((hb1.trans (hb2.mono hb1.size)).mono HB.out.size)
      have B1 := cMonthsOf k w2 (by omega) (HM.out.below hB2)
      have B2 := fun wx hb => cDays k wx ((HM.out.below hB2).below hb)
      rw [HL.out] at B2
      rw [HY.out] at B1
      have HB2 : Hid (Below w.heap.size w w2) := hB2
      obtain ⟨C', hC⟩ : ∃ C : Array Value, monC k = C := ⟨_, rfl⟩
      rw [hC] at B1 B2
      clear hC hB2 hb1 hb2 A1 A2
      go_wp2_with fail
      refine B1.mono ?_
      rintro e w3 ⟨rfl, hb1⟩
      go_wp2_with fail
      refine (B2 w3 hb1).mono ?_
      rintro e w4 ⟨rfl, hb2⟩
      have hB4 : Below w.heap.size w w4 := HB2.out.trans ((hb1.trans (hb2.mono hb1.size)).mono HB2.out.size)
      clear hb1 hb2 B1 B2
      go_wp2_with fail
      go_roundw
      case rel =>
        have h1 := HY.out; have h2 := HR.out; have h3 := HL.out
        refine ⟨r - L, k + 1, ?_, ?_, ?_, hB4⟩
        · go_num
        · rw [← h1]; go_num
        · rw [yb_succ, h3]; omega
      case measure => simp [intOf]; omega
    · go_wp2_with fail
      refine A1.mono ?_
      rintro e w1 ⟨rfl, hb1⟩
      go_wp2_with fail
      refine (A2 w1 hb1).mono ?_
      rintro e w2 ⟨rfl, hb2⟩
      have hB2 : Below w.heap.size w w2 := HB.out.trans ((hb1.trans (hb2.mono hb1.size)).mono HB.out.size)
      clear hb1 hb2 A1 A2
      have HB2 : Hid (Below w.heap.size w w2) := hB2
      clear hB2
      go_wp2_with fail
      go_loopw [0, 6] (fun day month wx => ∃ s m : Nat, day = .int .i64 (s : Int) ∧ month = .int .i64 (m : Int) ∧ 1 ≤ m ∧ m ≤ 12 ∧ s + mb (lp k) m = r ∧ Below w.heap.size w wx) (fun day _ _ => (intOf day).toNat)
      case atStart => exact ⟨r, 1, rfl, rfl, by omega, by omega, rfl, HB2.out⟩
      case round =>
        obtain ⟨s, m, rfl, rfl, hm1, hm2, hs, hB⟩ := hrel
        have A := fun wx hb => cDaysI_in k m wx hk hm1 hm2 (HM.out.below hb)
        obtain ⟨D, hD⟩ : ∃ D : Nat, dm (lp k) m = D := ⟨_, rfl⟩
        have hD1 : 28 ≤ D := by rw [← hD]; exact (dm_pos _ _ hm1 hm2).1
        have hD2 : D ≤ 32 := by
          have := (dm_pos (lp k) m hm1 hm2).2
          have : lp k ≤ 1 := by unfold lp; split <;> omega
          omega
        have HD : Hid (dm (lp k) m = D) := hD
        have HS : Hid (s + mb (lp k) m = r) := hs
        have hs2 : s ≤ 36525 := by omega
        have HBx : Hid (Below w.heap.size w wr) := hB
        rw [hD, HY.out] at A
        clear hD hs hB
        by_cases hlt2 : D ≤ s
        · go_wp2_with fail
          refine (A _ HBx.out).mono ?_
          rintro e w3 ⟨rfl, hb3⟩
          have hB3 : Below w.heap.size w w3 := HBx.out.trans (hb3.mono HBx.out.size)
          have HB3 : Hid (Below w.heap.size w w3) := hB3
          clear hb3 hB3
          go_wp2_with fail
          refine (A _ HB3.out).mono ?_
          rintro e w4 ⟨rfl, hb4⟩
          have hB4 : Below w.heap.size w w4 := HB3.out.trans (hb4.mono HB3.out.size)
          clear hb4 A
          go_wp2_with fail
          go_roundw
          case rel =>
            have h1 := HD.out; have h2 := HS.out; have h3 := HL.out
            have h4 := month_lt hm1 hm2 h2 (by omega) (by omega)
            refine ⟨s - D, m + 1, ?_, ?_, by omega, by omega, ?_, hB4⟩
            · go_num
            · go_num
            · rw [mb_succ _ _ hm1 hm2, h1]; omega
          case measure => simp [intOf]; omega
        · go_wp2_with fail
          refine (A _ HBx.out).mono ?_
          rintro e w3 ⟨rfl, hb3⟩
          have hB3 : Below w.heap.size w w3 := HBx.out.trans (hb3.mono HBx.out.size)
          clear hb3 A
          go_wp2_with fail
          go_ret3
          have h1 := HD.out; have h2 := HS.out; have h3 := HL.out; have h5 := HR.out
          refine ⟨k, m, s + 1, ?_, ⟨hk, hm1, hm2, by omega, by omega, by omega⟩, hB3⟩
          rw [HY.out]
          first | rfl | simp

end Go.Proofs.YtbphbjkmgmgpkaaDoor
