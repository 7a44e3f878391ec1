/- Contract of the specification's TimeOf. -/
import Derived.Test.YtbphbjkmgmgpkaaDoorTOfN
import Derived.Test.YtbphbjkmgmgpkaaDoorTTextS
namespace Go.Proofs.YtbphbjkmgmgpkaaDoor
open Go.RowKit
set_option linter.unusedVariables false
set_option linter.unusedSimpArgs false

theorem field_lenS (l : List UInt8) (q : Nat) : (fieldL l q).length ≤ 4 := by
  unfold fieldL
  have := (wid_le q).1
  simp
  omega

theorem rd_bnd (l : List UInt8) (q : Nat) : -1 ≤ rdI (fieldL l q) ∧ rdI (fieldL l q) < 10000 := by
  have h1 := rdI_bounds (fieldL l q)
  have h2 : (10 : Nat) ^ (fieldL l q).length ≤ 10 ^ 4 := Nat.pow_le_pow_right (by decide) (field_lenS l q)
  have h3 : ((10 ^ (fieldL l q).length : Nat) : Int) = (10 : Int) ^ (fieldL l q).length := by simp
  have h4 : (10 : Nat) ^ 4 = 10000 := by decide
  omega

set_option maxHeartbeats 8000000 in
set_option maxRecDepth 4000 in
theorem cOfS_20 (u : ByteArray) (w : World) (hu : u.size = 20) :
    Calls Tryd.prog 13 #[.string u] w fun e w' => e = .returned (.tuple #[.int .i64 (timeOf u.data.toList).1, .bool (timeOf u.data.toList).2]) ∧ Below w.heap.size w w' := by
  have HU : Hid (u.size = 20) := hu
  have hui : (u.size : Int) = 20 := by omega
  have C0 := fun w => cDigitsS u 0 4 w (by omega) (by omega) (by omega)
  have C1 := fun w => cDigitsS u 5 2 w (by omega) (by omega) (by omega)
  have C2 := fun w => cDigitsS u 8 2 w (by omega) (by omega) (by omega)
  have C3 := fun w => cDigitsS u 11 2 w (by omega) (by omega) (by omega)
  have C4 := fun w => cDigitsS u 14 2 w (by omega) (by omega) (by omega)
  have C5 := fun w => cDigitsS u 17 2 w (by omega) (by omega) (by omega)
  obtain ⟨l, hl⟩ : ∃ l, u.data.toList = l := ⟨_, rfl⟩
  have Hl : Hid (u.data.toList = l) := hl
  rw [hl] at C0 C1 C2 C3 C4 C5 ⊢
  rw [show (l.drop 0).take 4 = fieldL l 0 from rfl] at C0
  rw [show (l.drop 5).take 2 = fieldL l 1 from rfl] at C1
  rw [show (l.drop 8).take 2 = fieldL l 2 from rfl] at C2
  rw [show (l.drop 11).take 2 = fieldL l 3 from rfl] at C3
  rw [show (l.drop 14).take 2 = fieldL l 4 from rfl] at C4
  rw [show (l.drop 17).take 2 = fieldL l 5 from rfl] at C5
  have s0 := rd_bnd l 0
  have s1 := rd_bnd l 1
  have s2 := rd_bnd l 2
  have s3 := rd_bnd l 3
  have s4 := rd_bnd l 4
  have s5 := rd_bnd l 5
  obtain ⟨b0, e0⟩ : ∃ b, rdI (fieldL l 0) = b := ⟨_, rfl⟩
  obtain ⟨b1, e1⟩ : ∃ b, rdI (fieldL l 1) = b := ⟨_, rfl⟩
  obtain ⟨b2, e2⟩ : ∃ b, rdI (fieldL l 2) = b := ⟨_, rfl⟩
  obtain ⟨b3, e3⟩ : ∃ b, rdI (fieldL l 3) = b := ⟨_, rfl⟩
  obtain ⟨b4, e4⟩ : ∃ b, rdI (fieldL l 4) = b := ⟨_, rfl⟩
  obtain ⟨b5, e5⟩ : ∃ b, rdI (fieldL l 5) = b := ⟨_, rfl⟩
  rw [e0] at C0 s0
  rw [e1] at C1 s1
  rw [e2] at C2 s2
  rw [e3] at C3 s3
  rw [e4] at C4 s4
  rw [e5] at C5 s5
  obtain ⟨T, hT⟩ : ∃ T : Int × Bool, timeOf l = T := ⟨_, rfl⟩
  have HT : Hid (timeOf l = T) := hT
  rw [hT]
  obtain ⟨T1, T2⟩ := T
  have I0 := fun w => cIn b0 2000 2099 w
  have I1 := fun w => cIn b1 1 12 w
  clear hl hT hu
  by_cases hin : (2000 ≤ b0 ∧ b0 ≤ 2099) ∧ (1 ≤ b1 ∧ b1 ≤ 12)
  · obtain ⟨k, hk0⟩ : ∃ k : Nat, b0 = (2000 + k : Nat) := ⟨b0.toNat - 2000, by omega⟩
    obtain ⟨m, hm0⟩ : ∃ m : Nat, b1 = m := ⟨b1.toNat, by omega⟩
    have hk : k < 100 := by omega
    have hm1 : 1 ≤ m := by omega
    have hm2 : m ≤ 12 := by omega
    rw [decide_eq_true hin.1] at I0
    rw [decide_eq_true hin.2] at I1
    have CD := fun w => cDaysS_in k m w hk hm1 hm2
    rw [← hk0, ← hm0] at CD
    have hD1 : 28 ≤ dm (lp k) m ∧ dm (lp k) m ≤ 31 + lp k := dm_pos _ _ hm1 hm2
    obtain ⟨D, hD⟩ : ∃ D : Nat, dm (lp k) m = D := ⟨_, rfl⟩
    rw [hD] at CD hD1
    have I2 := fun w => cIn b2 1 D w
    by_cases hd : 1 ≤ b2 ∧ b2 ≤ (D : Int)
    · obtain ⟨dd, hdd⟩ : ∃ dd : Nat, b2 = dd := ⟨b2.toNat, by omega⟩
      have hcand := timeOf_cand (l := l) hk (by rw [e0, hk0]; omega) (by rw [e1, hm0]) e2 e3 e4 e5 (by rw [← Hl.out, ← sz]; exact HU.out)
      unfold cand at hcand
      rw [HT.out] at hcand
      rw [decide_eq_true hd] at I2
      have HCd : Hid ((T1, T2) = _) := hcand
      have HK0 : Hid (b0 = (2000 + k : Nat)) := hk0
      have HD0 : Hid (b2 = dd) := hdd
      have HM0 : Hid (b1 = m) := hm0
      have hD2 : D ≤ 32 := by have : lp k ≤ 1 := by unfold lp; split <;> omega
                              omega
      have hdd1 : 1 ≤ dd := by omega
      have hdd2 : dd ≤ 32 := by omega
      have hw0 : IntKind.i64.wrap (b2 - 1) = b2 - 1 := IntWalk.i64_in _ (by omega)
      have hb2i : b2 - 1 = ((dd - 1 : Nat) : Int) := by omega
      clear hk0 hm0 hin hd hD1 hD e0 e1 e2 e3 e4 e5 HT hcand hdd s0 s1 s2
      go_enter Tryd.func13, Tryd.ntmps13
      go_wp2_with fail
      refine (C0 _).mono ?_
      rintro e w1 ⟨rfl, rfl⟩
      go_wp2_with fail
      refine (C1 _).mono ?_
      rintro e w1 ⟨rfl, rfl⟩
      go_wp2_with fail
      refine (C2 _).mono ?_
      rintro e w1 ⟨rfl, rfl⟩
      go_wp2_with fail
      refine (I0 _).mono ?_
      rintro e w1 ⟨rfl, rfl⟩
      go_wp2_with fail
      refine (I1 _).mono ?_
      rintro e w1 ⟨rfl, rfl⟩
      go_wp2_with fail
      refine (CD _).mono ?_
      rintro e w2 ⟨rfl, hb2⟩
      go_wp2_with fail
      refine (I2 _).mono ?_
      rintro e w3 ⟨rfl, rfl⟩
      have HB2 : Hid (Below w1.heap.size w1 w3) := hb2
      clear hb2 I0 I1 I2 C0 C1 C2 CD
      go_wp2_with fail
      clear hb2i hw0
      go_loop [7, 8] (fun ds y => ∃ j v : Nat, j ≤ k ∧ ds = .int .i64 (v : Int) ∧ v = dd - 1 + yb j ∧ y = .int .i64 ((2000 + j : Nat) : Int)) (fun _ y => 2000 + k - (intOf y).toNat)
      case atStart => exact ⟨0, dd - 1, Nat.zero_le _, rfl, by simp [yb], rfl⟩
      case round =>
        obtain ⟨j, v, hj, rfl, hv, rfl⟩ := hrel
        have hvb : v ≤ 40000 := by rw [hv]; unfold yb; omega
        have HV : Hid (v = dd - 1 + yb j) := hv
        have z4 : ((((2000 + j : Nat) : Int) % 4) == 0) = (lp j == 1) := by
          unfold lp
          split
          · simp; omega
          · simp; omega
        have z5 : ((((2000 + j : Nat) : Int).tmod 4) == 0) = (lp j == 1) := by
          rw [Int.tmod_eq_emod_of_nonneg (by omega)]
          exact z4
        have hys := yb_succ j
        obtain ⟨q, hq⟩ : ∃ q : Nat, lp j = q := ⟨_, rfl⟩
        have hq01 : q = 0 ∨ q = 1 := by rw [← hq]; unfold lp; split <;> simp
        rw [hq] at z4 z5 hys
        have HYs : Hid (yb (j + 1) = yb j + (365 + q)) := hys
        obtain ⟨y, hy⟩ : ∃ y : Int, ((2000 + j : Nat) : Int) = y := ⟨_, rfl⟩
        have HYj : Hid (((2000 + j : Nat) : Int) = y) := hy
        have hy1 : 2000 ≤ y := by omega
        have hy2 : y ≤ 2100 := by omega
        rw [hy] at z4 z5 ⊢
        clear hy hv hq hys
        by_cases hlt : j < k
        · have hyi : decide (y < b0) = true := by have h1 := HK0.out; have h2 := HYj.out; simp; omega
          rcases hq01 with rfl | rfl
          · have z6 : (y % 4 == 0) = false := z4
            have z7 : (y.tmod 4 == 0) = false := z5
            clear z4 z5
            go_wp2_with fail
            go_round
            case rel =>
              have h1 := HYj.out; have h2 := HV.out; have h3 := HYs.out
              refine ⟨j + 1, v + 365, by omega, by go_num, by omega, ?_⟩
              rw [← h1]; go_num
            case measure => have h1 := HYj.out; simp [intOf]; omega
          · have z6 : (y % 4 == 0) = true := z4
            have z7 : (y.tmod 4 == 0) = true := z5
            clear z4 z5
            go_wp2_with fail
            go_round
            case rel =>
              have h1 := HYj.out; have h2 := HV.out; have h3 := HYs.out
              refine ⟨j + 1, v + 366, by omega, by go_num, by omega, ?_⟩
              rw [← h1]; go_num
            case measure => have h1 := HYj.out; simp [intOf]; omega
        · have hyi : decide (y < b0) = false := by have h1 := HK0.out; have h2 := HYj.out; simp; omega
          have hje : j = k := by omega
          subst hje
          clear z4 z5 hq01
          go_wp2_with fail
          clear hyi
          go_loopw [7, 9] (fun ds q wx => ∃ n t : Nat, 1 ≤ n ∧ n ≤ m ∧ ds = .int .i64 (t : Int) ∧ t = dd - 1 + (yb j + mb (lp j) n) ∧ q = .int .i64 (n : Int) ∧ Below w1.heap.size w1 wx) (fun _ q _ => m - (intOf q).toNat)
          case atStart => exact ⟨1, v, by omega, hm1, rfl, by rw [HV.out]; rfl, rfl, HB2.out⟩
          case round =>
            obtain ⟨n, t, hn1, hn2, rfl, ht, rfl, hB⟩ := hrel
            have htb : t ≤ 40000 := by
              have h1 := mb_lt_13 (lp j) n hn1 (by omega)
              have h2 : yb j ≤ 36525 := by unfold yb; omega
              have h3 : lp j ≤ 1 := by unfold lp; split <;> omega
              omega
            have HTt : Hid (t = dd - 1 + (yb j + mb (lp j) n)) := ht
            have HBx : Hid (Below w1.heap.size w1 wr) := hB
            clear ht hB
            by_cases hlt2 : n < m
            · have hni : decide ((n : Int) < b1) = true := by have h1 := HM0.out; simp; omega
              have A := cDaysS_in j n wr hk hn1 (by omega)
              obtain ⟨E, hE⟩ : ∃ E : Nat, dm (lp j) n = E := ⟨_, rfl⟩
              have hE2 : E ≤ 32 := by
                have := (dm_pos (lp j) n hn1 (by omega)).2
                have : lp j ≤ 1 := by unfold lp; split <;> omega
                omega
              have HE : Hid (dm (lp j) n = E) := hE
              rw [hE, ← HK0.out] at A
              clear hE
              go_wp2_with fail
              refine A.mono ?_
              rintro e w4 ⟨rfl, hb4⟩
              have hB4 : Below w1.heap.size w1 w4 := HBx.out.trans (hb4.mono HBx.out.size)
              clear hb4
              go_wp2_with fail
              go_roundw
              case rel =>
                have h1 := HTt.out; have h2 := HE.out
                exact ⟨n + 1, t + E, by omega, by omega, by go_num, by rw [mb_succ _ _ hn1 (by omega)]; omega, by go_num, hB4⟩
              case measure => simp [intOf]; omega
            · have hni : decide ((n : Int) < b1) = false := by have h1 := HM0.out; simp; omega
              have hne : n = m := by omega
              subst hne
              have hcd := HCd.out
              obtain ⟨c, hc⟩ : ∃ c : Int, (t : Int) * 86400 + b3 * 3600 + b4 * 60 + b5 = c := ⟨_, rfl⟩
              have hce : ((yb j + mb (lp j) n : Nat) + b2 - 1) * 86400 + b3 * 3600 + b4 * 60 + b5 = c := by
                have h1 := HTt.out; have h2 := HD0.out
                rw [← hc]
                omega
              rw [hce] at hcd
              have HCd2 : Hid ((T1, T2) = if textOf c = l then (c, true) else (0, false)) := hcd
              have r3 : IntKind.i64.wrap ((t : Int) * 86400) = (t : Int) * 86400 := IntWalk.i64_in _ (by omega)
              have r4 : IntKind.i64.wrap (b3 * 3600) = b3 * 3600 := IntWalk.i64_in _ (by omega)
              have r5 : IntKind.i64.wrap ((t : Int) * 86400 + b3 * 3600) = (t : Int) * 86400 + b3 * 3600 := IntWalk.i64_in _ (by omega)
              have r6 : IntKind.i64.wrap (b4 * 60) = b4 * 60 := IntWalk.i64_in _ (by omega)
              have r7 : IntKind.i64.wrap ((t : Int) * 86400 + b3 * 3600 + b4 * 60) = (t : Int) * 86400 + b3 * 3600 + b4 * 60 := IntWalk.i64_in _ (by omega)
              have r8 : IntKind.i64.wrap ((t : Int) * 86400 + b3 * 3600 + b4 * 60 + b5) = (t : Int) * 86400 + b3 * 3600 + b4 * 60 + b5 := IntWalk.i64_in _ (by omega)
              have HC : Hid ((t : Int) * 86400 + b3 * 3600 + b4 * 60 + b5 = c) := hc
              have CTm := fun w => cTimeS c w
              have CTx := fun w => cTextS c w
              clear hcd hce hc HCd
              have hlen : l.length = 20 := by rw [← Hl.out, ← sz]; exact HU.out
              have HLen : Hid (l.length = 20) := hlen
              clear hlen
              by_cases hrg : 0 ≤ c ∧ c ≤ 3155759999
              · rw [decide_eq_true hrg] at CTm
                rw [← HC.out] at CTm
                by_cases hcc : textOf c = l
                · have hcd := HCd2.out
                  rw [if_pos hcc, ← HC.out] at hcd
                  rw [hcc, ← Hl.out, ← HC.out] at CTx
                  cases hcd
                  clear hrg
                  go_wp2_with fail
                  refine (C3 _).mono ?_
                  rintro e w4 ⟨rfl, rfl⟩
                  go_wp2_with fail
                  refine (C4 _).mono ?_
                  rintro e w4 ⟨rfl, rfl⟩
                  go_wp2_with fail
                  refine (C5 _).mono ?_
                  rintro e w4 ⟨rfl, rfl⟩
                  go_wp2_with fail
                  refine (CTm _).mono ?_
                  rintro e w4 ⟨rfl, rfl⟩
                  go_wp2_with fail
                  refine (CTx _).mono ?_
                  rintro e w5 ⟨rfl, hb5⟩
                  go_wp2_with fail
                  go_ret2
                  exact ⟨rfl, HBx.out.trans (hb5.mono HBx.out.size)⟩
                · have hcd := HCd2.out
                  rw [if_neg hcc] at hcd
                  obtain ⟨X, hX⟩ : ∃ X : ByteArray, (⟨(textOf c).toArray⟩ : ByteArray) = X := ⟨_, rfl⟩
                  have hne : (X.toList == u.toList) = false := by
                    rw [ByteArray.toList_eq, ByteArray.toList_eq, ← hX, Hl.out]
                    rw [beq_eq_false_iff_ne]
                    exact hcc
                  rw [hX, ← HC.out] at CTx
                  cases hcd
                  clear hX
                  clear hrg
                  go_wp2_with fail
                  refine (C3 _).mono ?_
                  rintro e w4 ⟨rfl, rfl⟩
                  go_wp2_with fail
                  refine (C4 _).mono ?_
                  rintro e w4 ⟨rfl, rfl⟩
                  go_wp2_with fail
                  refine (C5 _).mono ?_
                  rintro e w4 ⟨rfl, rfl⟩
                  go_wp2_with fail
                  refine (CTm _).mono ?_
                  rintro e w4 ⟨rfl, rfl⟩
                  go_wp2_with fail
                  refine (CTx _).mono ?_
                  rintro e w5 ⟨rfl, hb5⟩
                  go_wp2_with fail
                  go_ret2
                  exact ⟨rfl, HBx.out.trans (hb5.mono HBx.out.size)⟩
              · rw [decide_eq_false hrg] at CTm
                have hcd := HCd2.out
                rw [if_neg (fun h => by rw [textOf_out hrg] at h; have := HLen.out; rw [← h] at this; simp at this)] at hcd
                rw [← HC.out] at CTm
                cases hcd
                clear hrg
                go_wp2_with fail
                refine (C3 _).mono ?_
                rintro e w4 ⟨rfl, rfl⟩
                go_wp2_with fail
                refine (C4 _).mono ?_
                rintro e w4 ⟨rfl, rfl⟩
                go_wp2_with fail
                refine (C5 _).mono ?_
                rintro e w4 ⟨rfl, rfl⟩
                go_wp2_with fail
                refine (CTm _).mono ?_
                rintro e w4 ⟨rfl, rfl⟩
                go_wp2_with fail
                go_ret2
                exact ⟨rfl, HBx.out⟩
    · rw [decide_eq_false hd] at I2
      have hbad := timeOf_bad (l := l) (fun h => by
        obtain ⟨⟨k', m', _, _, _, h0, h1, h2, h3⟩, _⟩ := h
        have : k' = k := by omega
        subst this
        have : m' = m := by omega
        subst this
        omega)
      rw [HT.out] at hbad
      cases hbad
      clear hk0 hm0 hin hd hD1 hD e0 e1 e2 e3 e4 e5 HT C3 C4 C5 s0 s1 s2 s3 s4 s5
      go_enter Tryd.func13, Tryd.ntmps13
      go_wp2_with fail
      refine (C0 _).mono ?_
      rintro e w1 ⟨rfl, rfl⟩
      go_wp2_with fail
      refine (C1 _).mono ?_
      rintro e w1 ⟨rfl, rfl⟩
      go_wp2_with fail
      refine (C2 _).mono ?_
      rintro e w1 ⟨rfl, rfl⟩
      go_wp2_with fail
      refine (I0 _).mono ?_
      rintro e w1 ⟨rfl, rfl⟩
      go_wp2_with fail
      refine (I1 _).mono ?_
      rintro e w1 ⟨rfl, rfl⟩
      go_wp2_with fail
      refine (CD _).mono ?_
      rintro e w2 ⟨rfl, hb2⟩
      go_wp2_with fail
      refine (I2 _).mono ?_
      rintro e w3 ⟨rfl, rfl⟩
      go_wp2_with fail
      go_ret2
      exact ⟨rfl, hb2⟩
  · have hbad := timeOf_bad (l := l) (fun h => by
      obtain ⟨⟨k', m', _, _, _, h0, h1, h2, h3⟩, _⟩ := h
      omega)
    rw [HT.out] at hbad
    cases hbad
    by_cases hy : 2000 ≤ b0 ∧ b0 ≤ 2099
    · rw [decide_eq_true hy] at I0
      rw [decide_eq_false (fun x => hin ⟨hy, x⟩)] at I1
      clear hin hy e0 e1 e2 e3 e4 e5 HT C3 C4 C5 s0 s1 s2 s3 s4 s5
      go_enter Tryd.func13, Tryd.ntmps13
      go_wp2_with fail
      refine (C0 _).mono ?_
      rintro e w1 ⟨rfl, rfl⟩
      go_wp2_with fail
      refine (C1 _).mono ?_
      rintro e w1 ⟨rfl, rfl⟩
      go_wp2_with fail
      refine (C2 _).mono ?_
      rintro e w1 ⟨rfl, rfl⟩
      go_wp2_with fail
      refine (I0 _).mono ?_
      rintro e w1 ⟨rfl, rfl⟩
      go_wp2_with fail
      refine (I1 _).mono ?_
      rintro e w1 ⟨rfl, rfl⟩
      go_wp2_with fail
      go_ret2
      exact ⟨rfl, Below.refl _ _⟩
    · rw [decide_eq_false hy] at I0
      clear hin hy e0 e1 e2 e3 e4 e5 HT C3 C4 C5 s0 s1 s2 s3 s4 s5
      go_enter Tryd.func13, Tryd.ntmps13
      go_wp2_with fail
      refine (C0 _).mono ?_
      rintro e w1 ⟨rfl, rfl⟩
      go_wp2_with fail
      refine (C1 _).mono ?_
      rintro e w1 ⟨rfl, rfl⟩
      go_wp2_with fail
      refine (C2 _).mono ?_
      rintro e w1 ⟨rfl, rfl⟩
      go_wp2_with fail
      refine (I0 _).mono ?_
      rintro e w1 ⟨rfl, rfl⟩
      go_wp2_with fail
      go_ret2
      exact ⟨rfl, Below.refl _ _⟩

theorem cOfS (u : ByteArray) (w : World) :
    Calls Tryd.prog 13 #[.string u] w fun e w' => e = .returned (.tuple #[.int .i64 (timeOf u.data.toList).1, .bool (timeOf u.data.toList).2]) ∧ Below w.heap.size w w' := by
  by_cases h : u.size = 20
  · exact cOfS_20 u w h
  · rw [timeOf_len (by rw [← sz]; exact h)]
    have hul : ¬ (u.size : Int) = 20 := by omega
    clear h
    go_enter Tryd.func13, Tryd.ntmps13
    go_wp2_with fail
    go_ret2
    exact ⟨rfl, Below.refl _ _⟩

end Go.Proofs.YtbphbjkmgmgpkaaDoor
