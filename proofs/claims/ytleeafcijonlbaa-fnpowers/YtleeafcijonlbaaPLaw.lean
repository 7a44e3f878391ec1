/- The law on powers: whatever is drawn, it answers true. -/
import Derived.Test.YtleeafcijonlbaaPPow
import Derived.Test.YtleeafcijonlbaaPDraw
namespace Go.Proofs.Ytleeafcijonlbaa
open Go.RowKit
set_option linter.unusedVariables false
set_option linter.unusedSimpArgs false

theorem timesI_comm (a b n : Int) : timesI b a n = timesI a b n := by
  by_cases h : restOk a n
  · by_cases k : restOk b n
    · rw [timesI_ok h k, timesI_ok k h]
      unfold timesOf
      rw [Nat.mul_comm]
    · rw [timesI_no1 k, timesI_no2 k]
  · rw [timesI_no1 h, timesI_no2 h]

theorem powI_neg {a e n : Int} (h : ¬ powI a e n < 0) : restOk a n ∧ 0 ≤ e := by
  by_cases h1 : restOk a n
  · by_cases h2 : 0 ≤ e
    · exact ⟨h1, h2⟩
    · rw [powI_no2 h2] at h
      exact absurd (by decide) h
  · rw [powI_no1 h1] at h
    exact absurd (by decide) h

theorem powI_rest {a e n : Int} (h : restOk a n) (k : 0 ≤ e) : restOk (powI a e n) n := by
  rw [powI_ok h k]
  have := powOf_lt a.toNat e.toNat n.toNat (by have := h.1; omega)
  exact ⟨h.1, by omega, by have := h.1; omega⟩

theorem powI_add {a e k n : Int} (h : restOk a n) (he : 0 ≤ e) (hk : 0 ≤ k) : timesI (powI a e n) (powI a k n) n = powI a (e + k) n := by
  rw [timesI_ok (powI_rest h he) (powI_rest h hk), powI_ok h he, powI_ok h hk, powI_ok h (by omega)]
  simp only [Int.toNat_natCast]
  rw [Int.toNat_add he hk, powOf_add]
  rfl

theorem powI_zero {a n : Int} (h : restOk a n) : powI a 0 n = 1 := by
  rw [powI_ok h (by omega)]
  have := powOf_zero a.toNat n.toNat (by have := h.1; omega)
  simp only [Int.toNat_zero]
  rw [this]
  rfl

theorem powI_one {a n : Int} (h : restOk a n) : powI a 1 n = a := by
  rw [powI_ok h (by omega)]
  have := powOf_one a.toNat n.toNat (by have := h.2; omega)
  have e : (1 : Int).toNat = 1 := rfl
  rw [e, this]
  have := h.2
  omega

set_option maxHeartbeats 8000000 in
theorem law_powers (a : Option Addr) (len cap : Nat) (w : World) (hcr : CodeB w a len) :
    Calls Try.prog 3 #[.slice a len cap] w fun e w' => e = .returned (.bool true) ∧ Below w.heap.size w w' := by
  have HR := hide5 hcr
  clear hcr
  by_cases hbig : len ≤ 4096
  · go_enter Try.func3, Try.ntmps3
    go_wp2_with fail
    refine (cBig_no a len cap _ hbig).mono ?_
    rintro e0 w' ⟨rfl, rfl⟩
    go_wp2_with fail
    refine (cDrawTimes a len cap _ hbig HR.out.row).mono ?_
    rintro e0 w1 ⟨x, y, n, rfl, hb1⟩
    have HB1 := hide5 hb1
    clear hb1
    have T1 := fun w => cTimesI x y n w
    have T2 := fun w => cTimesS x y n w
    have T3 := fun w => cTimesI y x n w
    rw [timesI_comm x y n] at T3
    generalize timesI x y n = X at *
    go_wp2_with fail
    refine (T1 _).mono ?_
    rintro e0 w2 ⟨rfl, hb2⟩
    have HB2 := hide5 (below2 HB1.out hb2)
    clear hb2 HB1 T1
    go_wp2_with fail
    refine (cDrawPower a len cap _ hbig (HR.out.below HB2.out).row).mono ?_
    rintro e0 w3 ⟨p, e, m, rfl, he, hb3⟩
    have HB3 := hide5 (below2 HB2.out hb3)
    clear hb3 HB2
    have P1 := fun w => cPowerI p e m w (by omega)
    have P2 := fun w => cPowerS p e m w (by omega)
    obtain ⟨Y, hY⟩ : ∃ Y, powI p e m = Y := ⟨_, rfl⟩
    rw [hY] at P1 P2
    have HY := hide5 hY
    clear hY
    go_wp2_with fail
    refine (P1 _).mono ?_
    rintro e0 w4 ⟨rfl, hb4⟩
    have HB4 := hide5 (below2 HB3.out hb4)
    clear hb4 HB3 P1
    go_wp2_with fail
    refine (T2 _).mono ?_
    rintro e0 w5 ⟨rfl, rfl⟩
    go_wp2_with fail
    refine (P2 _).mono ?_
    rintro e0 w6 ⟨rfl, rfl⟩
    go_wp2_with fail
    refine (T3 _).mono ?_
    rintro e0 w7 ⟨rfl, hb7⟩
    have HB7 := hide5 (below2 HB4.out hb7)
    clear hb7 HB4 T2 T3 P2
    by_cases c1 : Y < 0
    · have d1 : decide (Y < 0) = true := decide_eq_true c1
      go_wp2_with fail
      go_ret
      exact ⟨rfl, HB7.out⟩
    · have d1 : decide (Y < 0) = false := decide_eq_false c1
      by_cases c2 : 1099511627776 < e
      · have d2 : decide (1099511627776 < e) = true := decide_eq_true c2
        go_wp2_with fail
        go_ret
        exact ⟨rfl, HB7.out⟩
      · have d2 : decide (1099511627776 < e) = false := decide_eq_false c2
        have hm : restOk p m ∧ 0 ≤ e := powI_neg (by rw [HY.out]; exact c1)
        obtain ⟨hr, he0⟩ := hm
        have HO := hide5 hr
        clear hr
        go_wp2_with fail
        refine (cPick 1 1000 a len cap _ (by decide) (by decide) (by decide) hbig (HR.out.below HB7.out)).mono ?_
        rintro e0 w8 ⟨k, rfl, hk, rfl⟩
        have s1 : wrap64 (e + (k : Int)) = e + (k : Int) := IntWalk.wrap64_in _ (by omega)
        have s2 : IntKind.i64.wrap (e + (k : Int)) = e + (k : Int) := IntWalk.i64_in _ (by omega)
        have Q1 := fun w => cPowerI p (e + k) m w (by omega)
        have Q2 := fun w => cPowerI p k m w (by omega)
        have Q3 := fun w => cTimesI (powI p e m) (powI p k m) m w
        rw [powI_add HO.out he0 (by omega)] at Q3
        rw [HY.out] at Q3
        have Q4 := fun w => cPowerI p 0 m w (by omega)
        rw [powI_zero HO.out] at Q4
        have Q5 := fun w => cPowerI p 1 m w (by omega)
        rw [powI_one HO.out] at Q5
        generalize powI p (e + k) m = Z at *
        generalize powI p k m = U at *
        clear c1 c2 hk he0 HY
        go_wp2_with fail
        refine (Q1 _).mono ?_
        rintro e0 w9 ⟨rfl, hb9⟩
        have HB9 := hide5 (below2 HB7.out hb9)
        clear hb9 Q1
        go_wp2_with fail
        refine (Q2 _).mono ?_
        rintro e0 w10 ⟨rfl, hb10⟩
        have HB10 := hide5 (below2 HB9.out hb10)
        clear hb10 Q2
        go_wp2_with fail
        refine (Q3 _).mono ?_
        rintro e0 w11 ⟨rfl, hb11⟩
        have HB11 := hide5 (below2 HB10.out hb11)
        clear hb11 Q3
        go_wp2_with fail
        refine (Q4 _).mono ?_
        rintro e0 w12 ⟨rfl, hb12⟩
        have HB12 := hide5 (below2 HB11.out hb12)
        clear hb12 Q4
        go_wp2_with fail
        refine (Q5 _).mono ?_
        rintro e0 w13 ⟨rfl, hb13⟩
        have HB13 := hide5 (below2 HB12.out hb13)
        clear hb13 Q5
        go_wp2_with fail
        go_ret
        exact ⟨rfl, HB13.out⟩
  · go_enter Try.func3, Try.ntmps3
    go_wp2_with fail
    refine (cBig_yes a len cap _ hbig).mono ?_
    rintro e0 w' ⟨rfl, rfl⟩
    go_wp2_with fail
    go_ret
    exact ⟨rfl, Below.refl _ _⟩

end Go.Proofs.Ytleeafcijonlbaa
