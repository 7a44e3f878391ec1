/- The law on inverses: whatever is drawn, it answers true. -/
import Derived.Test.YtleeafcijonlbaaPInvS
import Derived.Test.YtleeafcijonlbaaPPow
import Derived.Test.YtleeafcijonlbaaPPrime
import Derived.Test.YtleeafcijonlbaaPFerm
import Derived.Test.YtleeafcijonlbaaPDrawI
import Derived.Deep.Cut
import Derived.Test.YtleeafcijonlbaaPQuiet
namespace Go.Proofs.Ytleeafcijonlbaa
open Go.RowKit
set_option linter.unusedVariables false
set_option linter.unusedSimpArgs false

theorem isPr_prN {r : Int} (h : isPr r) : PrN r.toNat := ⟨by have := h.1; omega, fun k h2 h3 => pr_all (by have := h.1; omega) h.2 k h2 h3⟩

theorem pow_pr {r : Int} (h : isPr r) (b : Nat) (h0 : 0 < b) (h1 : (b : Int) < r) : powI b (r - 1) r = 1 := by
  have hp := isPr_prN h
  have hr := h.1
  rw [powI_ok ⟨⟨by omega, by omega⟩, by omega, h1⟩ (by omega)]
  simp only [Int.toNat_natCast]
  have e : (r - 1).toNat = r.toNat - 1 := by omega
  rw [e]
  unfold powOf
  rw [hp.fermat1 b (by rw [Nat.gcd_comm]; exact hp.coprime h0 (by omega))]
  rfl

theorem gcd_pr {r : Int} (h : isPr r) (b : Nat) (h0 : 0 < b) (h1 : (b : Int) < r) : gcdI b r = 1 := by
  have hp := isPr_prN h
  have hr := h.1
  rw [gcdI_ok ⟨by omega, by omega⟩ ⟨by omega, by omega⟩]
  simp only [Int.toNat_natCast]
  rw [hp.coprime h0 (by omega)]
  rfl

theorem gcdI_pos {p q : Int} (h : 0 < gcdI p q) : upOk p ∧ upOk q := by
  by_cases h1 : upOk p
  · by_cases h2 : upOk q
    · exact ⟨h1, h2⟩
    · rw [gcdI_no2 h2] at h
      omega
  · rw [gcdI_no1 h1] at h
    omega

theorem quot_facts {p q : Int} (h : 0 < gcdI p q) : ∃ P' Q' : Int, ¬ gcdI p q = 0 ∧ p.tmod (gcdI p q) = 0 ∧ p % (gcdI p q) = 0 ∧ q.tmod (gcdI p q) = 0 ∧ q % (gcdI p q) = 0
    ∧ p.tdiv (gcdI p q) = P' ∧ p / (gcdI p q) = P' ∧ q.tdiv (gcdI p q) = Q' ∧ q / (gcdI p q) = Q' ∧ wrap64 P' = P' ∧ wrap64 Q' = Q' ∧ gcdI P' Q' = 1 := by
  obtain ⟨h1, h2⟩ := gcdI_pos h
  obtain ⟨P, rfl⟩ : ∃ P : Nat, p = P := ⟨p.toNat, by have := h1.1; omega⟩
  obtain ⟨Q, rfl⟩ : ∃ Q : Nat, q = Q := ⟨q.toNat, by have := h2.1; omega⟩
  rw [gcdI_ok h1 h2] at h ⊢
  simp only [Int.toNat_natCast] at h ⊢
  have hg : 0 < Nat.gcd P Q := by omega
  have l1 : P / Nat.gcd P Q ≤ 3000000000 := Nat.le_trans (Nat.div_le_self _ _) (by have := h1.2; omega)
  have l2 : Q / Nat.gcd P Q ≤ 3000000000 := Nat.le_trans (Nat.div_le_self _ _) (by have := h2.2; omega)
  have m1 : P % Nat.gcd P Q = 0 := Nat.mod_eq_zero_of_dvd (Nat.gcd_dvd_left P Q)
  have m2 : Q % Nat.gcd P Q = 0 := Nat.mod_eq_zero_of_dvd (Nat.gcd_dvd_right P Q)
  have hc : Nat.gcd (P / Nat.gcd P Q) (Q / Nat.gcd P Q) = 1 := by
    rw [Nat.gcd_div (Nat.gcd_dvd_left P Q) (Nat.gcd_dvd_right P Q)]
    exact Nat.div_self hg
  refine ⟨((P / Nat.gcd P Q : Nat) : Int), ((Q / Nat.gcd P Q : Nat) : Int), by omega, ?_, ?_, ?_, ?_, quo_tdiv _ _, (Int.natCast_ediv _ _).symm, quo_tdiv _ _, (Int.natCast_ediv _ _).symm, (small64 _ l1).1, (small64 _ l2).1, ?_⟩
  · rw [rem_tmod, m1]; rfl
  · rw [← Int.natCast_emod, m1]; rfl
  · rw [rem_tmod, m2]; rfl
  · rw [← Int.natCast_emod, m2]; rfl
  · rw [gcdI_ok ⟨Int.natCast_nonneg _, by omega⟩ ⟨Int.natCast_nonneg _, by omega⟩]
    simp only [Int.toNat_natCast]
    rw [hc]
    rfl

theorem times_inv {a n X : Int} (h : IsI a n X) : timesI a X n = 1 := by
  obtain ⟨hr, h1, h2, h3⟩ := h
  rw [timesI_ok hr ⟨hr.1, by omega, h2⟩]
  have ha := hr.2.1
  have hn := hr.1.1
  obtain ⟨A, rfl⟩ : ∃ A : Nat, a = A := ⟨a.toNat, by omega⟩
  obtain ⟨Y, rfl⟩ : ∃ Y : Nat, X = Y := ⟨X.toNat, by omega⟩
  obtain ⟨N, rfl⟩ : ∃ N : Nat, n = N := ⟨n.toNat, by omega⟩
  simp only [Int.toNat_natCast]
  unfold timesOf
  rw [Int.mul_comm] at h3
  exact (Int.natCast_emod (A * Y) N).trans (by rw [Int.natCast_mul]; exact h3)

theorem one_rem {n : Int} (h : 2 ≤ n) : (1 : Int).tmod n = 1 ∧ (1 : Int) % n = 1 := ⟨Int.tmod_eq_of_lt (by omega) (by omega), Int.emod_eq_of_lt (by omega) (by omega)⟩

theorem bool_of (p : Prop) : ∃ B : Bool, (B = true ↔ p) := by
  by_cases h : p
  · exact ⟨true, by simp [h]⟩
  · exact ⟨false, by simp [h]⟩

set_option maxRecDepth 8000 in
set_option maxHeartbeats 8000000 in
theorem law_inverse (a : Option Addr) (len cap : Nat) (w : World) (hcr : CodeB w a len) :
    Calls Try.prog 4 #[.slice a len cap] w fun e w' => e = .returned (.bool true) ∧ Below w.heap.size w w' := by
  have HR := hide5 hcr
  clear hcr
  by_cases hbig : len ≤ 4096
  · have HNB := hide5 (bw_any w)
    go_enter Try.func4, Try.ntmps4
    go_wp2_with fail
    refine (cBig_no a len cap _ hbig).mono ?_
    rintro e0 w' ⟨rfl, rfl⟩
    go_wp2_with fail
    refine (cDrawInverse a len cap _ hbig HR.out.row).mono ?_
    rintro e0 w1 ⟨x, n, rfl, hb1⟩
    have HB1 := hide5 hb1
    clear hb1
    have I1 := fun w => cInvI x n w
    have I2 := fun w => cInvS x n w
    obtain ⟨X, hX⟩ : ∃ X, invI x n = X := ⟨_, rfl⟩
    rw [hX] at I1 I2
    have HX := hide5 hX
    clear hX
    go_wp2_with fail
    refine (I1 _).mono ?_
    rintro e0 w2 ⟨rfl, hb2⟩
    have HB2 := hide5 (below2 HB1.out hb2)
    clear hb2 HB1 I1
    go_wp2_with fail
    refine (cDrawGcd a len cap _ hbig (HR.out.below HB2.out).row).mono ?_
    rintro e0 w3 ⟨p, q, rfl, hb3⟩
    have HB3 := hide5 (below2 HB2.out hb3)
    clear hb3 HB2
    have G1 := fun w => cGcdI p q w
    have G2 := fun w => cGcdS p q w
    obtain ⟨G, hG⟩ : ∃ G, gcdI p q = G := ⟨_, rfl⟩
    rw [hG] at G1 G2
    have HG := hide5 hG
    clear hG
    go_wp2_with fail
    refine (G1 _).mono ?_
    rintro e0 w4 ⟨rfl, hb4⟩
    have HB4 := hide5 (below2 HB3.out hb4)
    clear hb4 HB3 G1
    go_wp2_with fail
    refine (cDrawPrime a len cap _ hbig (HR.out.below HB4.out).row).mono ?_
    rintro e0 w5 ⟨r, rfl, hb5⟩
    have HB5 := hide5 (below2 HB4.out hb5)
    clear hb5 HB4
    obtain ⟨B, hB⟩ : ∃ B : Bool, (B = true ↔ isPr r) := bool_of (isPr r)
    have P1 := fun w => cPrimeI r B hB w
    have P2 := fun w => cPrimeS r B hB w
    have HBr := hide5 hB
    clear hB
    go_wp2_with fail
    refine (I2 _).mono ?_
    rintro e0 w6 ⟨rfl, rfl⟩
    go_wp2_with fail
    refine (G2 _).mono ?_
    rintro e0 w6 ⟨rfl, rfl⟩
    go_wp2_with fail
    refine (P1 _).mono ?_
    rintro e0 w6 ⟨rfl, rfl⟩
    go_wp2_with fail
    refine (P2 _).mono ?_
    rintro e0 w6 ⟨rfl, rfl⟩
    clear I2 G2 P2
    go_wp2_with fail
    go_cut [73] from 50 (fun c wv => c = .bool false ∧ Below w'.heap.size w' wv)
    case first =>
      by_cases c1 : 0 < G
      · have hd : decide (0 < G) = true := decide_eq_true c1
        have hqf := quot_facts (p := p) (q := q) (by rw [HG.out]; exact c1)
        rw [HG.out] at hqf
        obtain ⟨P', Q', q4, q5, q6, q7, q8, q9, q10, q11, q12, q13, q14, q15⟩ := hqf
        have GG := fun w => cGcdI P' Q' w
        rw [q15] at GG
        clear HG HX HBr P1 q15
        haveI := HNB.out
        refine wp_region_below (by kernel_rfl) (by kernel_rfl) HB5.out ?_
        repeat (go_big_quiet_step ((go_at_call 19; exact calls_bw _ (GG _))))
        refine wpQuiet_nil ?_
        intro _ hw'
        obtain ⟨⟨wq, hwq⟩, hw''⟩ := hw'
        have HBq := hide5 hwq
        subst hw''
        clear GG
        go_wp2_with fail
        go_meet
        exact ⟨rfl, HBq.out⟩
      · have hd : decide (0 < G) = false := decide_eq_false c1
        clear HG HX HBr P1
        go_quiet (fail)
        go_wp2_with fail
        go_meet
        exact ⟨rfl, by first | exact HB5.out | exact ⟨HB5.out.os, HB5.out.tape, HB5.out.output, HB5.out.size, HB5.out.block⟩ | exact HB5.out.drew⟩
    case rest =>
      obtain ⟨rfl, hbc⟩ := hcut
      have HB6 := hide5 hbc
      clear hbc HB5 HG
      go_wp2_with fail
      refine (P1 _).mono ?_
      rintro e0 w7 ⟨rfl, rfl⟩
      clear P1
      cases B
      · clear HBr
        by_cases cz : X = 0
        · subst cz
          rcases invI_zero HX.out with hn | hn
          · by_cases d1 : n < 2
            · have hd1 : decide (n < 2) = true := decide_eq_true d1
              go_wp2_with fail
              go_ret
              exact ⟨rfl, HB6.out⟩
            · have hd1 : decide (n < 2) = false := decide_eq_false d1
              by_cases d2 : 3000000000 < n
              · have hd2 : decide (3000000000 < n) = true := decide_eq_true d2
                go_wp2_with fail
                go_ret
                exact ⟨rfl, HB6.out⟩
              · have hd2 : decide (3000000000 < n) = false := decide_eq_false d2
                by_cases d3 : x < 0
                · have hd3 : decide (x < 0) = true := decide_eq_true d3
                  go_wp2_with fail
                  go_ret
                  exact ⟨rfl, HB6.out⟩
                · have hd3 : decide (x < 0) = false := decide_eq_false d3
                  have hd4 : decide (n ≤ x) = true := by
                    apply decide_eq_true
                    rcases Int.lt_or_le x n with h | h
                    · exact absurd ⟨⟨by omega, by omega⟩, by omega, h⟩ hn
                    · exact h
                  go_wp2_with fail
                  go_ret
                  exact ⟨rfl, HB6.out⟩
          · by_cases hr : restOk x n
            · have hg : ((gcdI x n) != 1) = true := by
                rw [gcdI_ok ⟨by have := hr.2; omega, by have := hr.1; have := hr.2; omega⟩ ⟨by have := hr.1; omega, by have := hr.1; omega⟩]
                simp only [bne_iff_ne]
                intro h
                exact hn (by omega)
              have GC := fun w => cGcdI x n w
              generalize gcdI x n = g at *
              have hd1 : decide (n < 2) = false := decide_eq_false (by have := hr.1; omega)
              have hd2 : decide (3000000000 < n) = false := decide_eq_false (by have := hr.1; omega)
              have hd3 : decide (x < 0) = false := decide_eq_false (by have := hr.2; omega)
              have hd4 : decide (n ≤ x) = false := decide_eq_false (by have := hr.2; omega)
              clear hn hr HX
              go_wp2_with fail
              refine (GC _).mono ?_
              rintro e0 w9 ⟨rfl, hb9⟩
              have HB9 := hide5 (below2 HB6.out hb9)
              clear hb9 GC
              go_wp2_with fail
              go_ret
              exact ⟨rfl, HB9.out⟩
            · by_cases d1 : n < 2
              · have hd1 : decide (n < 2) = true := decide_eq_true d1
                go_wp2_with fail
                go_ret
                exact ⟨rfl, HB6.out⟩
              · have hd1 : decide (n < 2) = false := decide_eq_false d1
                by_cases d2 : 3000000000 < n
                · have hd2 : decide (3000000000 < n) = true := decide_eq_true d2
                  go_wp2_with fail
                  go_ret
                  exact ⟨rfl, HB6.out⟩
                · have hd2 : decide (3000000000 < n) = false := decide_eq_false d2
                  by_cases d3 : x < 0
                  · have hd3 : decide (x < 0) = true := decide_eq_true d3
                    go_wp2_with fail
                    go_ret
                    exact ⟨rfl, HB6.out⟩
                  · have hd3 : decide (x < 0) = false := decide_eq_false d3
                    have hd4 : decide (n ≤ x) = true := by
                      apply decide_eq_true
                      rcases Int.lt_or_le x n with h | h
                      · exact absurd ⟨⟨by omega, by omega⟩, by omega, h⟩ hr
                      · exact h
                    go_wp2_with fail
                    go_ret
                    exact ⟨rfl, HB6.out⟩
        · have hi : IsI x n X := by
            have := invI_is (a := x) (n := n) (by rw [HX.out]; exact cz)
            rw [HX.out] at this
            exact this
          have hz : (X == 0) = false := by simpa using cz
          have TT := fun w => cTimesI x X n w
          rw [times_inv hi] at TT
          have hx1 : decide (0 < X) = true := decide_eq_true hi.2.1
          have hx2 : decide (X < n) = true := decide_eq_true hi.2.2.1
          obtain ⟨o1, o2⟩ := one_rem hi.1.1.1
          have hnz : ¬ n = 0 := by have := hi.1.1.1; omega
          clear hi cz HX
          go_wp2_with fail
          haveI := HNB.out
          refine wp_region_below (by kernel_rfl) (by kernel_rfl) HB6.out ?_
          repeat (go_big_quiet_step ((go_at_call 10; exact calls_bw _ (TT _))))
          refine wpQuiet_nil ?_
          intro _ hw'
          obtain ⟨⟨wq, hwq⟩, hw''⟩ := hw'
          have HBq := hide5 hwq
          subst hw''
          clear TT
          go_wp2_with fail
          go_ret
          exact ⟨rfl, HBq.out⟩
      · have hp := HBr.out.1 rfl
        have hr1 := hp.1.1
        have hr2 := hp.1.2
        obtain ⟨m, hm⟩ : ∃ m : Nat, r - 1 = (m : Int) := ⟨(r - 1).toNat, by omega⟩
        have s1 : wrap64 (r - 1) = (m : Int) := by rw [hm]; exact IntWalk.wrap64_in _ (by omega)
        have s2 : IntKind.i64.wrap (r - 1) = (m : Int) := by rw [hm]; exact IntWalk.i64_in _ (by omega)
        have HP := hide5 hp
        have HM := hide5 hm
        have hm1 : 1 ≤ m := by omega
        have hm2 : m ≤ 65535 := by omega
        clear hp hm HBr
        go_wp2_with fail
        refine (cPick 1 m a len cap _ (by decide) hm1 (by omega) hbig (HR.out.below HB6.out)).mono ?_
        rintro e0 w8 ⟨k, rfl, hk, rfl⟩
        obtain ⟨b, hb⟩ : ∃ b : Nat, 1 + k = b := ⟨_, rfl⟩
        have t1 : wrap64 (1 + (k : Int)) = (b : Int) := by rw [← hb, Int.natCast_add]; exact IntWalk.wrap64_in _ (by omega)
        have t2 : IntKind.i64.wrap (1 + (k : Int)) = (b : Int) := by rw [← hb, Int.natCast_add]; exact IntWalk.i64_in _ (by omega)
        have hbr : (b : Int) < r := by have := HM.out; omega
        have PW := fun w => cPowerI b m r w (by omega)
        have e1 := pow_pr HP.out b (by omega) hbr
        rw [HM.out] at e1
        rw [e1] at PW
        have GB := fun w => cGcdI b r w
        rw [gcd_pr HP.out b (by omega) hbr] at GB
        have hd : decide ((b : Int) < r) = true := decide_eq_true hbr
        obtain ⟨o1, o2⟩ := one_rem hr1
        have hrz : ¬ r = 0 := by omega
        clear e1 hb hk HP HM hbr
        go_wp2_with fail
        clear t1 t2
        go_cut [99] from 81 (fun c wv => c = .bool false ∧ Below w'.heap.size w' wv)
        case first =>
          haveI := HNB.out
          refine wp_region_below (by kernel_rfl) (by kernel_rfl) HB6.out ?_
          repeat (go_big_quiet_step ((first | (go_at_call 12; exact calls_bw _ (PW _)) | (go_at_call 19; exact calls_bw _ (GB _)))))
          refine wpQuiet_nil ?_
          intro _ hw'
          obtain ⟨⟨wq, hwq⟩, hw''⟩ := hw'
          have HBq := hide5 hwq
          subst hw''
          clear PW GB
          go_wp2_with fail
          go_meet
          exact ⟨rfl, HBq.out⟩
        case rest =>
          obtain ⟨rfl, hbc⟩ := hcut
          clear HB6
          have HB6 := hide5 hbc
          clear hbc PW GB s1 s2 o1 o2 hrz hd hr1 hr2 hm1 hm2
          by_cases cz : X = 0
          · subst cz
            rcases invI_zero HX.out with hn | hn
            · by_cases d1 : n < 2
              · have hd1 : decide (n < 2) = true := decide_eq_true d1
                go_wp2_with fail
                go_ret
                exact ⟨rfl, HB6.out⟩
              · have hd1 : decide (n < 2) = false := decide_eq_false d1
                by_cases d2 : 3000000000 < n
                · have hd2 : decide (3000000000 < n) = true := decide_eq_true d2
                  go_wp2_with fail
                  go_ret
                  exact ⟨rfl, HB6.out⟩
                · have hd2 : decide (3000000000 < n) = false := decide_eq_false d2
                  by_cases d3 : x < 0
                  · have hd3 : decide (x < 0) = true := decide_eq_true d3
                    go_wp2_with fail
                    go_ret
                    exact ⟨rfl, HB6.out⟩
                  · have hd3 : decide (x < 0) = false := decide_eq_false d3
                    have hd4 : decide (n ≤ x) = true := by
                      apply decide_eq_true
                      rcases Int.lt_or_le x n with h | h
                      · exact absurd ⟨⟨by omega, by omega⟩, by omega, h⟩ hn
                      · exact h
                    go_wp2_with fail
                    go_ret
                    exact ⟨rfl, HB6.out⟩
            · by_cases hr : restOk x n
              · have hg : ((gcdI x n) != 1) = true := by
                  rw [gcdI_ok ⟨by have := hr.2; omega, by have := hr.1; have := hr.2; omega⟩ ⟨by have := hr.1; omega, by have := hr.1; omega⟩]
                  simp only [bne_iff_ne]
                  intro h
                  exact hn (by omega)
                have GC := fun w => cGcdI x n w
                generalize gcdI x n = g at *
                have hd1 : decide (n < 2) = false := decide_eq_false (by have := hr.1; omega)
                have hd2 : decide (3000000000 < n) = false := decide_eq_false (by have := hr.1; omega)
                have hd3 : decide (x < 0) = false := decide_eq_false (by have := hr.2; omega)
                have hd4 : decide (n ≤ x) = false := decide_eq_false (by have := hr.2; omega)
                clear hn hr HX
                go_wp2_with fail
                refine (GC _).mono ?_
                rintro e0 w9 ⟨rfl, hb9⟩
                have HB9 := hide5 (below2 HB6.out hb9)
                clear hb9 GC
                go_wp2_with fail
                go_ret
                exact ⟨rfl, HB9.out⟩
              · by_cases d1 : n < 2
                · have hd1 : decide (n < 2) = true := decide_eq_true d1
                  go_wp2_with fail
                  go_ret
                  exact ⟨rfl, HB6.out⟩
                · have hd1 : decide (n < 2) = false := decide_eq_false d1
                  by_cases d2 : 3000000000 < n
                  · have hd2 : decide (3000000000 < n) = true := decide_eq_true d2
                    go_wp2_with fail
                    go_ret
                    exact ⟨rfl, HB6.out⟩
                  · have hd2 : decide (3000000000 < n) = false := decide_eq_false d2
                    by_cases d3 : x < 0
                    · have hd3 : decide (x < 0) = true := decide_eq_true d3
                      go_wp2_with fail
                      go_ret
                      exact ⟨rfl, HB6.out⟩
                    · have hd3 : decide (x < 0) = false := decide_eq_false d3
                      have hd4 : decide (n ≤ x) = true := by
                        apply decide_eq_true
                        rcases Int.lt_or_le x n with h | h
                        · exact absurd ⟨⟨by omega, by omega⟩, by omega, h⟩ hr
                        · exact h
                      go_wp2_with fail
                      go_ret
                      exact ⟨rfl, HB6.out⟩
          · have hi : IsI x n X := by
              have := invI_is (a := x) (n := n) (by rw [HX.out]; exact cz)
              rw [HX.out] at this
              exact this
            have hz : (X == 0) = false := by simpa using cz
            have TT := fun w => cTimesI x X n w
            rw [times_inv hi] at TT
            have hx1 : decide (0 < X) = true := decide_eq_true hi.2.1
            have hx2 : decide (X < n) = true := decide_eq_true hi.2.2.1
            obtain ⟨o1, o2⟩ := one_rem hi.1.1.1
            have hnz : ¬ n = 0 := by have := hi.1.1.1; omega
            clear hi cz HX
            go_wp2_with fail
            haveI := HNB.out
            refine wp_region_below (by kernel_rfl) (by kernel_rfl) HB6.out ?_
            repeat (go_big_quiet_step ((go_at_call 10; exact calls_bw _ (TT _))))
            refine wpQuiet_nil ?_
            intro _ hw'
            obtain ⟨⟨wq, hwq⟩, hw''⟩ := hw'
            have HBq := hide5 hwq
            subst hw''
            clear TT
            go_wp2_with fail
            go_ret
            exact ⟨rfl, HBq.out⟩
  · go_enter Try.func4, Try.ntmps4
    go_wp2_with fail
    refine (cBig_yes a len cap _ hbig).mono ?_
    rintro e0 w' ⟨rfl, rfl⟩
    go_wp2_with fail
    go_ret
    exact ⟨rfl, Below.refl _ _⟩

end Go.Proofs.Ytleeafcijonlbaa
