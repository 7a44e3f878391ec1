/- Contracts of the specification's Inverse. -/
import Derived.Test.YtfglgadmcgkjkaaPInv
namespace Go.Proofs.Ytfglgadmcgkjkaa
open Go.RowKit
set_option linter.unusedVariables false
set_option linter.unusedSimpArgs false

set_option maxHeartbeats 4000000 in
theorem cInvSL (A N : Nat) (w : World) (hr : restOk A N) (HG0 : Hid (Nat.gcd A N = 1)) (a2 : A < N) (hn2 : 2 ≤ N) (hn3 : N ≤ 3000000000) :
    Calls Try.prog 42 #[.int .i64 A, .int .i64 N] w fun e w' => e = .returned (.int .i64 (invI A N)) ∧ w' = w := by
  have CM := fun w => cMod N w
  rw [decide_eq_true (show 2 ≤ (N : Int) ∧ (N : Int) ≤ 3000000000 by omega)] at CM
  have e1 : wrap64 ((N : Int) - 1) = (N : Int) - 1 := IntWalk.wrap64_in _ (by omega)
  have e2 : IntKind.i64.wrap ((N : Int) - 1) = (N : Int) - 1 := IntWalk.i64_in _ (by omega)
  have CA := fun w => cIn5 A 0 ((N : Int) - 1) w
  rw [decide_eq_true (show 0 ≤ (A : Int) ∧ (A : Int) ≤ (N : Int) - 1 by omega)] at CA
  have CG := fun w => cGcdL A N w (by omega) (by omega)
  rw [HG0.out] at CG
  have HK : Hid (Kept A N A N 1 0) := kept_spec A N (by omega)
  have HI : Hid (restOk A N) := hr
  clear hr
  obtain ⟨I, hI⟩ : ∃ I : Int, invI A N = I := ⟨_, rfl⟩
  have HV : Hid (invI A N = I) := hI
  rw [hI]
  clear hI
  go_enter Try.func42, Try.ntmps42
  go_wp2_with fail
  refine (CM _).mono ?_
  rintro e w' ⟨rfl, rfl⟩
  go_wp2_with fail
  refine (CA _).mono ?_
  rintro e w' ⟨rfl, rfl⟩
  go_wp2_with fail
  refine (CG _).mono ?_
  rintro e w' ⟨rfl, rfl⟩
  clear CM CA CG e1 e2
  go_wp2_with fail
  go_loop [5, 6, 7, 8] (fun u v x y => ∃ (g r : Nat) (f m : Int), x = .int .i64 (g : Int) ∧ y = .int .i64 (r : Int) ∧ u = .int .i64 f ∧ v = .int .i64 m ∧ g ≤ 3000000000 ∧ r ≤ 3000000000 ∧ Hid (Nat.gcd g r = 1) ∧ Hid (Kept A N g r f m)) (fun _ _ _ y => (intOf y).toNat)
  case atStart => exact ⟨A, N, 1, 0, rfl, rfl, rfl, rfl, by omega, hn3, HG0, HK⟩
  case round =>
    obtain ⟨g, r, f, m, rfl, rfl, rfl, rfl, hg, hr, HG, HK'⟩ := hrel
    by_cases hz : r = 0
    · subst hz
      have := HG.out
      rw [Nat.gcd_zero_right] at this
      subst this
      obtain ⟨⟨hf1, hf2⟩, i1, i2⟩ := kept_end HK'.out HI.out
      rw [HV.out] at i1 i2
      obtain ⟨t1, t2, t3⟩ := tmod_end f N hf1 hf2
      have hne : ¬ (N : Int) = 0 := by omega
      have s1 : wrap64 (f + (N : Int)) = f + (N : Int) := IntWalk.wrap64_in _ (by omega)
      have s2 : IntKind.i64.wrap (f + (N : Int)) = f + (N : Int) := IntWalk.i64_in _ (by omega)
      have s3 : wrap64 f = f := IntWalk.wrap64_in _ (by omega)
      have t4 : (f + (N : Int)).tmod (N : Int) = I := by
        by_cases hneg : f < 0
        · rw [t2 hneg, i1 hneg]
        · rw [t3 hneg, i2 hneg]
      have s4 : wrap64 I = I := by
        have : I = f + N ∨ I = f := by
          by_cases hneg : f < 0
          · exact .inl (i1 hneg)
          · exact .inr (i2 hneg)
        exact IntWalk.wrap64_in _ (by omega)
      have HF : Hid (f % (N : Int) = I) := by
        show f % (N : Int) = I
        by_cases hneg : f < 0
        · rw [i1 hneg, ← Int.add_emod_right, Int.emod_eq_of_lt (by omega) (by omega)]
        · rw [i2 hneg, Int.emod_eq_of_lt (by omega) (by omega)]
      clear i1 i2 t2 t3
      obtain ⟨S, hS⟩ : ∃ S : Int, f + (N : Int) = S := ⟨_, rfl⟩
      rw [hS] at t4
      have s1 : wrap64 (f + (N : Int)) = S := by rw [s1, hS]
      have s2 : IntKind.i64.wrap (f + (N : Int)) = S := by rw [s2, hS]
      clear HG HK' HV HI hS
      go_wp2
      go_ret
      exact ⟨by rw [← HF.out]; rfl, rfl⟩
    · have hne : ¬ (r : Int) = 0 := by omega
      have hpos : decide ((0 : Int) < (r : Int)) = true := by simp; omega
      have HN0 := gcd_step g r
      rw [HG.out] at HN0
      obtain ⟨q, k, P, hqq, hk, hkr, ht, w1, w2, w3, w4, w5⟩ := great_facts2 g r hg hr hz
      have HM : Hid ((g : Int) % (r : Int) = (k : Int)) := by rw [← hk]; exact (Int.natCast_emod g r).symm
      obtain ⟨K1, K2⟩ := HK'.out.step (Nat.pos_of_ne_zero hz)
      rw [hqq, hk] at K1
      rw [hqq] at K2
      obtain ⟨M, Z, hZ, m1, m2, m3, m4⟩ := fac_facts q N f m hn3 K2 K1.2.2.2.2.2
      rw [hZ] at K1
      have HN : Hid (Nat.gcd r k = 1) := by rw [hk] at HN0; exact HN0
      have HK2 : Hid (Kept A N r k m Z) := K1
      clear HG HN0 hk hqq HK' K1 K2 hZ w2 w3 w4 w5
      go_wp2
      go_round
      case rel => exact ⟨r, k, m, Z, rfl, by rw [HM.out], rfl, rfl, hr, by omega, HN, HK2⟩
      case measure => rw [HM.out]; simp [intOf]; omega

set_option maxHeartbeats 4000000 in
theorem cInvS (a n : Int) (w : World) :
    Calls Try.prog 42 #[.int .i64 a, .int .i64 n] w fun e w' => e = .returned (.int .i64 (invI a n)) ∧ w' = w := by
  have CM := fun w => cMod n w
  by_cases hm : 2 ≤ n ∧ n ≤ 3000000000
  · rw [decide_eq_true hm] at CM
    have e1 : wrap64 (n - 1) = n - 1 := IntWalk.wrap64_in _ (by omega)
    have e2 : IntKind.i64.wrap (n - 1) = n - 1 := IntWalk.i64_in _ (by omega)
    have CA := fun w => cIn5 a 0 (n - 1) w
    by_cases ha : restOk a n
    · rw [decide_eq_true (show 0 ≤ a ∧ a ≤ n - 1 from ⟨ha.2.1, by have := ha.2.2; omega⟩)] at CA
      have hr := ha
      obtain ⟨_, a1, a2⟩ := ha
      obtain ⟨A, rfl⟩ : ∃ A : Nat, a = A := ⟨a.toNat, by omega⟩
      obtain ⟨N, rfl⟩ : ∃ N : Nat, n = N := ⟨n.toNat, by omega⟩
      have CG := fun w => cGcdL A N w (by omega) (by omega)
      by_cases hg : Nat.gcd A N = 1
      · exact cInvSL A N w hr hg (by omega) (by omega) (by omega)
      · rw [invI_gcd (by simpa using hg)]
        have hd : (((Nat.gcd A N : Nat) : Int) != 1) = true := by simp; omega
        generalize Nat.gcd A N = R at *
        go_enter Try.func42, Try.ntmps42
        go_wp2_with fail
        refine (CM _).mono ?_
        rintro e w' ⟨rfl, rfl⟩
        go_wp2_with fail
        refine (CA _).mono ?_
        rintro e w' ⟨rfl, rfl⟩
        go_wp2_with fail
        refine (CG _).mono ?_
        rintro e w' ⟨rfl, rfl⟩
        go_wp2_with fail
        go_ret
        exact ⟨rfl, rfl⟩
    · rw [decide_eq_false (show ¬ (0 ≤ a ∧ a ≤ n - 1) from fun x => ha ⟨hm, x.1, by omega⟩)] at CA
      rw [invI_range ha]
      clear ha
      go_enter Try.func42, Try.ntmps42
      go_wp2_with fail
      refine (CM _).mono ?_
      rintro e w' ⟨rfl, rfl⟩
      go_wp2_with fail
      refine (CA _).mono ?_
      rintro e w' ⟨rfl, rfl⟩
      go_wp2_with fail
      go_ret
      exact ⟨rfl, rfl⟩
  · rw [decide_eq_false hm] at CM
    rw [invI_range (fun x => hm x.1)]
    go_enter Try.func42, Try.ntmps42
    go_wp2_with fail
    refine (CM _).mono ?_
    rintro e w' ⟨rfl, rfl⟩
    go_wp2_with fail
    go_ret
    exact ⟨rfl, rfl⟩

end Go.Proofs.Ytfglgadmcgkjkaa
