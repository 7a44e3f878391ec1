/- Contracts of what TimeOf calls: the specification's digits, the program's days ahead of a month. -/
import Derived.Test.YtbphbjkmgmgpkaaDoorTOfA
namespace Go.Proofs.YtbphbjkmgmgpkaaDoor
open Go.RowKit
set_option linter.unusedVariables false
set_option linter.unusedSimpArgs false

set_option maxHeartbeats 2000000 in
theorem cDigitsS (b : ByteArray) (o wd : Nat) (w : World) (hw : wd ≤ 15) (hb : o + wd ≤ b.size) (hs : b.size ≤ 1048576) :
    Calls Tryd.prog 29 #[.string b, .int .i64 o, .int .i64 wd] w fun e w' => e = .returned (.int .i64 (rdI ((b.data.toList.drop o).take wd))) ∧ w' = w := by
  obtain ⟨R, hR⟩ : ∃ R : Int, rdI ((b.data.toList.drop o).take wd) = R := ⟨_, rfl⟩
  have HR : Hid (rdI ((b.data.toList.drop o).take wd) = R) := hR
  rw [hR]
  clear hR
  go_enter Tryd.func29, Tryd.ntmps29
  go_wp2
  go_loop [7, 8] (fun n i => ∃ j v : Nat, i = .int .i64 ((o + j : Nat) : Int) ∧ j ≤ wd ∧ n = .int .i64 (v : Int) ∧ v = valD ((b.data.toList.drop o).take j) ∧ ((b.data.toList.drop o).take j).all isDig = true) (fun _ i => o + wd - (intOf i).toNat)
  case atStart => exact ⟨0, 0, rfl, Nat.zero_le _, rfl, rfl, rfl⟩
  case round =>
    obtain ⟨j, v, rfl, hj, rfl, hv, hall⟩ := hrel
    have hvb : v < 1000000000000000 := by rw [hv]; exact val_bound (n := wd) hall (by simp; omega) hw
    have HV : Hid (v = valD ((b.data.toList.drop o).take j)) := hv
    have HA : Hid (((b.data.toList.drop o).take j).all isDig = true) := hall
    clear hv hall
    obtain ⟨p, hp⟩ : ∃ p : Nat, o + j = p := ⟨_, rfl⟩
    have HP : Hid (o + j = p) := hp
    by_cases hlt : j < wd
    · have hpb : p < b.size := by omega
      have hpw : p < o + wd := by omega
      have hts := take_snoc b o j (by omega)
      simp only [hp] at hts
      have HT : Hid ((b.data.toList.drop o).take (j + 1) = (b.data.toList.drop o).take j ++ [b[p]]) := hts
      rw [hp]
      clear hts hp
      have hwr : IntKind.i64.wrap ((o : Int) + (wd : Int)) = (o : Int) + (wd : Int) := IntWalk.i64_in _ (by omega)
      have hpi : (p : Int) < (o : Int) + (wd : Int) := by omega
      by_cases hd : isDig b[p] = true
      · have hs48 := sub48 b[p] hd
        have HD : Hid (isDig b[p] = true) := hd
        have q1 : 48 ≤ b[p].toNat := by unfold isDig at hd; simp at hd; omega
        have q2 : b[p].toNat ≤ 57 := by unfold isDig at hd; simp at hd; omega
        have d1 : decide ((b[p].toNat : Int) < 48) = false := by simp; omega
        have d2 : decide ((57 : Int) < (b[p].toNat : Int)) = false := by simp; omega
        obtain ⟨x, hx⟩ : ∃ x : Nat, b[p].toNat - 48 = x := ⟨_, rfl⟩
        have hx9 : x ≤ 255 := by omega
        have HX : Hid (b[p].toNat - 48 = x) := hx
        rw [hx] at hs48
        clear hx hd
        go_wp2_with fail
        go_round
        case rel =>
          have h1 := HP.out
          refine ⟨j + 1, 10 * v + x, by go_num, by omega, by go_num, ?_, ?_⟩
          · rw [HT.out, valD_snoc, ← HV.out, HX.out]
          · rw [HT.out, all_snoc, HA.out, HD.out]; rfl
        case measure => simp [intOf]; omega
      · replace hd : isDig b[p] = false := by simpa using hd
        have hf := all_false HT.out hd wd hlt
        have h2 := HR.out
        unfold rdI at h2
        rw [if_neg (by rw [hf]; simp)] at h2
        subst h2
        have hq : b[p].toNat < 48 ∨ (48 ≤ b[p].toNat ∧ 57 < b[p].toNat) := by
          unfold isDig at hd
          simp at hd
          omega
        clear hd hf HR HT HA HV
        rcases hq with hq | ⟨hq, hq2⟩
        · have d1 : decide ((b[p].toNat : Int) < 48) = true := by simp; omega
          go_wp2_with fail
          go_ret
          exact ⟨rfl, rfl⟩
        · have d1 : decide ((b[p].toNat : Int) < 48) = false := by simp; omega
          have d2 : decide ((57 : Int) < (b[p].toNat : Int)) = true := by simp; omega
          go_wp2_with fail
          go_ret
          exact ⟨rfl, rfl⟩
    · have hje : j = wd := by omega
      have hpw : ¬ p < o + wd := by omega
      rw [hp]
      clear hp
      have hwr : IntKind.i64.wrap ((o : Int) + (wd : Int)) = (o : Int) + (wd : Int) := IntWalk.i64_in _ (by omega)
      have hpi : ¬ (p : Int) < (o : Int) + (wd : Int) := by omega
      have h2 := HR.out
      unfold rdI at h2
      rw [← hje, if_pos HA.out, ← HV.out] at h2
      subst h2
      clear HR HA HV hje
      go_wp2_with fail
      go_ret
      exact ⟨rfl, rfl⟩

set_option maxHeartbeats 4000000 in
theorem cAhead (k m : Nat) (w : World) (hk : k < 100) (hm1 : 1 ≤ m) (hm2 : m ≤ 12) (hM : Mon w) :
    Calls Tryd.prog 27 #[.int .i64 (2000 + k : Nat), .int .i64 m] w fun e w' => e = .returned (.int .i64 (yb k + mb (lp k) m : Nat)) ∧ Below w.heap.size w w' := by
  have HM : Hid (Mon w) := hM
  clear hM
  obtain ⟨Y, hY⟩ : ∃ Y : Int, ((2000 + k : Nat) : Int) = Y := ⟨_, rfl⟩
  have HY : Hid (((2000 + k : Nat) : Int) = Y) := hY
  rw [hY]
  clear hY
  go_enter Tryd.func27, Tryd.ntmps27
  go_wp2
  go_loopw [5, 6] (fun ds y wr => ∃ j v : Nat, j ≤ k ∧ ds = .int .i64 (v : Int) ∧ v = yb j ∧ y = .int .i64 ((2000 + j : Nat) : Int) ∧ Below w.heap.size w wr) (fun _ y _ => 2000 + k - (intOf y).toNat)
  case atStart => exact ⟨0, 0, Nat.zero_le _, rfl, rfl, rfl, Below.refl _ _⟩
  case round =>
    obtain ⟨j, v, hj, rfl, hv, rfl, hB⟩ := hrel
    have hvb : v ≤ 36525 := by rw [hv]; unfold yb; omega
    have HV : Hid (v = yb j) := hv
    have HB : Hid (Below w.heap.size w wr) := hB
    have hMr : Mon wr := HM.out.below hB
    have A1 := cMonthsOf j wr (by omega) hMr
    have A2 := fun wx hb => cDays j wx (hMr.below hb)
    clear hv hB hMr
    obtain ⟨y, hy⟩ : ∃ y : Int, ((2000 + j : Nat) : Int) = y := ⟨_, rfl⟩
    have HYj : Hid (((2000 + j : Nat) : Int) = y) := hy
    have hy1 : 2000 ≤ y := by omega
    have hy2 : y ≤ 2100 := by omega
    rw [hy] at A1 ⊢
    clear hy
    obtain ⟨C, hC⟩ : ∃ C : Array Value, monC j = C := ⟨_, rfl⟩
    rw [hC] at A1 A2
    obtain ⟨L, hL⟩ : ∃ L : Nat, 365 + lp j = L := ⟨_, rfl⟩
    have HL : Hid (365 + lp j = L) := hL
    have hL2 : L ≤ 366 := by rw [← hL]; unfold lp; split <;> omega
    rw [hL] at A2
    clear hC hL
    by_cases hlt : j < k
    · have hyi : decide (y < Y) = true := by have h1 := HY.out; have h2 := HYj.out; simp; omega
      go_wp2_with fail
      refine A1.mono ?_
      rintro e w1 ⟨rfl, hb1⟩
      go_wp2_with fail
      refine (A2 w1 hb1).mono ?_
      rintro e w2 ⟨rfl, hb2⟩
      have hB2 : Below w.heap.size w w2 := HB.out.trans ((hb1.trans (hb2.mono hb1.size)).mono HB.out.size)
      clear hb1 hb2 A1 A2
      go_wp2_with fail
      go_roundw
      case rel =>
        have h1 := HYj.out; have h2 := HV.out; have h3 := HL.out
        refine ⟨j + 1, v + L, by omega, by go_num, by rw [yb_succ, h3]; omega, ?_, hB2⟩
        rw [← h1]; go_num
      case measure => have h1 := HYj.out; simp [intOf]; omega
    · have hyi : decide (y < Y) = false := by have h1 := HY.out; have h2 := HYj.out; simp; omega
      have hje : j = k := by omega
      subst hje
      clear A1 A2
      go_wp2_with fail
      go_loopw [5, 7] (fun ds q wx => ∃ n u : Nat, 1 ≤ n ∧ n ≤ m ∧ ds = .int .i64 (u : Int) ∧ u = yb j + mb (lp j) n ∧ q = .int .i64 (n : Int) ∧ Below w.heap.size w wx) (fun _ q _ => m - (intOf q).toNat)
      case atStart => exact ⟨1, v, by omega, hm1, rfl, by rw [HV.out]; rfl, rfl, HB.out⟩
      case round =>
        obtain ⟨n, u, hn1, hn2, rfl, hu, rfl, hB⟩ := hrel
        have hub : u ≤ 40000 := by
          have h1 := mb_lt_13 (lp j) n hn1 (by omega)
          have h2 : yb j ≤ 36525 := by unfold yb; omega
          have h3 : lp j ≤ 1 := by unfold lp; split <;> omega
          omega
        have HU : Hid (u = yb j + mb (lp j) n) := hu
        have HBx : Hid (Below w.heap.size w wr) := hB
        have A := cDaysI_in j n wr hk hn1 (by omega) (HM.out.below hB)
        obtain ⟨D, hD⟩ : ∃ D : Nat, dm (lp j) n = D := ⟨_, rfl⟩
        have hD2 : D ≤ 32 := by
          have := (dm_pos (lp j) n hn1 (by omega)).2
          have : lp j ≤ 1 := by unfold lp; split <;> omega
          omega
        have HD : Hid (dm (lp j) n = D) := hD
        rw [hD, HY.out] at A
        clear hu hB hD
        by_cases hlt2 : n < m
        · go_wp2_with fail
          refine A.mono ?_
          rintro e w3 ⟨rfl, hb3⟩
          have hB3 : Below w.heap.size w w3 := HBx.out.trans (hb3.mono HBx.out.size)
          clear hb3
          go_wp2_with fail
          go_roundw
          case rel =>
            have h1 := HU.out; have h2 := HD.out
            exact ⟨n + 1, u + D, by omega, by omega, by go_num, by rw [mb_succ _ _ hn1 (by omega)]; omega, by go_num, hB3⟩
          case measure => simp [intOf]; omega
        · have hne : n = m := by omega
          subst hne
          clear A
          go_wp2_with fail
          go_ret
          exact ⟨by rw [← HU.out]; rfl, HBx.out⟩

end Go.Proofs.YtbphbjkmgmgpkaaDoor
