/- Contracts of KeyOf of the specification, and of what the laws hold keys against each other by. -/
import Derived.Test.YtfglgadmcgkjkaaKKey
import Derived.Test.YtfglgadmcgkjkaaKTo
namespace Go.Proofs.Ytfglgadmcgkjkaa
open Go.RowKit
set_option linter.unusedVariables false
set_option linter.unusedSimpArgs false

theorem pr_bool (p : Int) : ∃ B : Bool, B = true ↔ isPr p := by
  by_cases h : isPr p
  · exact ⟨true, by simp [h]⟩
  · exact ⟨false, by simp [h]⟩

set_option maxHeartbeats 2000000 in
theorem cKeyOfS_no1 (p q e : Int) (w : World) (hn : ¬ (((¬ p = q ∧ isPr p) ∧ isPr q) ∧ (3 ≤ e ∧ e ≤ 65537 ∧ e % 2 = 1))) :
    Calls Try.prog 14 #[.int .i64 p, .int .i64 q, .int .i64 e] w fun x w' => x = .returned (.tuple #[.agg #[.int .i64 0, .int .i64 0, .int .i64 0], .bool false]) ∧ Below w.heap.size w w' := by
  by_cases h1 : isPr p
  · have C1 := fun w => cPrimeS p true (by simp [h1]) w
    by_cases h2 : isPr q
    · have C2 := fun w => cPrimeS q true (by simp [h2]) w
      by_cases h3 : p = q
      · have hq : (p == q) = true := by simpa using h3
        clear h1 h2 h3 hn
        go_enter Try.func14, Try.ntmps14
        go_wp2_with fail
        refine (C1 _).mono ?_
        rintro x w' ⟨rfl, rfl⟩
        go_wp2_with fail
        refine (C2 _).mono ?_
        rintro x w' ⟨rfl, rfl⟩
        go_wp2_with fail
        refine bodyPost_ret (v := .tuple #[.agg #[.int .i64 0, .int .i64 0, .int .i64 0], .bool false]) (by simp [results, Try.results14, go_sem]) rfl ⟨rfl, ?_⟩
        repeat first | exact Below.refl _ _ | refine Below.setCell ?_ (by simp; try omega) _ | refine Below.alloc ?_ (by simp; try omega) _
      · have hq : (p == q) = false := by simpa using h3
        have C3 := fun w => cIn5 e 3 65537 w
        by_cases h4 : 3 ≤ e ∧ e ≤ 65537
        · have h5 : ¬ e % 2 = 1 := fun x => hn ⟨⟨⟨h3, h1⟩, h2⟩, h4.1, h4.2, x⟩
          have h6 : (e % 2 == 0) = true := by simp; omega
          have h7 : e.tmod 2 = 0 := by rw [Int.tmod_eq_emod_of_nonneg (by omega)]; omega
          rw [dec_t h4] at C3
          clear h1 h2 h3 hn h5
          go_enter Try.func14, Try.ntmps14
          go_wp2_with fail
          refine (C1 _).mono ?_
          rintro x w' ⟨rfl, rfl⟩
          go_wp2_with fail
          refine (C2 _).mono ?_
          rintro x w' ⟨rfl, rfl⟩
          go_wp2_with fail
          refine (C3 _).mono ?_
          rintro x w' ⟨rfl, rfl⟩
          go_wp2_with fail
          refine bodyPost_ret (v := .tuple #[.agg #[.int .i64 0, .int .i64 0, .int .i64 0], .bool false]) (by simp [results, Try.results14, go_sem]) rfl ⟨rfl, ?_⟩
          repeat first | exact Below.refl _ _ | refine Below.setCell ?_ (by simp; try omega) _ | refine Below.alloc ?_ (by simp; try omega) _
        · rw [dec_f h4] at C3
          clear h1 h2 h3 hn h4
          go_enter Try.func14, Try.ntmps14
          go_wp2_with fail
          refine (C1 _).mono ?_
          rintro x w' ⟨rfl, rfl⟩
          go_wp2_with fail
          refine (C2 _).mono ?_
          rintro x w' ⟨rfl, rfl⟩
          go_wp2_with fail
          refine (C3 _).mono ?_
          rintro x w' ⟨rfl, rfl⟩
          go_wp2_with fail
          refine bodyPost_ret (v := .tuple #[.agg #[.int .i64 0, .int .i64 0, .int .i64 0], .bool false]) (by simp [results, Try.results14, go_sem]) rfl ⟨rfl, ?_⟩
          repeat first | exact Below.refl _ _ | refine Below.setCell ?_ (by simp; try omega) _ | refine Below.alloc ?_ (by simp; try omega) _
    · have C2 := fun w => cPrimeS q false (by simp [h2]) w
      clear h1 h2 hn
      go_enter Try.func14, Try.ntmps14
      go_wp2_with fail
      refine (C1 _).mono ?_
      rintro x w' ⟨rfl, rfl⟩
      go_wp2_with fail
      refine (C2 _).mono ?_
      rintro x w' ⟨rfl, rfl⟩
      go_wp2_with fail
      refine bodyPost_ret (v := .tuple #[.agg #[.int .i64 0, .int .i64 0, .int .i64 0], .bool false]) (by simp [results, Try.results14, go_sem]) rfl ⟨rfl, ?_⟩
      repeat first | exact Below.refl _ _ | refine Below.setCell ?_ (by simp; try omega) _ | refine Below.alloc ?_ (by simp; try omega) _
  · have C1 := fun w => cPrimeS p false (by simp [h1]) w
    clear h1 hn
    go_enter Try.func14, Try.ntmps14
    go_wp2_with fail
    refine (C1 _).mono ?_
    rintro x w' ⟨rfl, rfl⟩
    go_wp2_with fail
    refine bodyPost_ret (v := .tuple #[.agg #[.int .i64 0, .int .i64 0, .int .i64 0], .bool false]) (by simp [results, Try.results14, go_sem]) rfl ⟨rfl, ?_⟩
    repeat first | exact Below.refl _ _ | refine Below.setCell ?_ (by simp; try omega) _ | refine Below.alloc ?_ (by simp; try omega) _

set_option maxHeartbeats 2000000 in
theorem cKeyOfS (p q e : Int) (w : World) :
    Calls Try.prog 14 #[.int .i64 p, .int .i64 q, .int .i64 e] w fun x w' => x = .returned (.tuple #[.agg #[.int .i64 (kfN p q e), .int .i64 (kfE p q e), .int .i64 (kfD p q e)], .bool (kfB p q e)]) ∧ Below w.heap.size w w' := by
  by_cases hg : ((¬ p = q ∧ isPr p) ∧ isPr q) ∧ (3 ≤ e ∧ e ≤ 65537 ∧ e % 2 = 1)
  · obtain ⟨hu, he⟩ := hg
    have C1 := fun w => cPrimeS p true (by simp [hu]) w
    have C2 := fun w => cPrimeS q true (by simp [hu]) w
    have hq : (p == q) = false := by simpa using hu.1.1
    have C3 := fun w => cIn5 e 3 65537 w
    rw [dec_t ⟨he.1, he.2.1⟩] at C3
    have h6 : (e % 2 == 0) = false := by simp; omega
    have h7 : e.tmod 2 = 1 := by rw [Int.tmod_eq_emod_of_nonneg (by omega)]; omega
    have h1 := hu.1.2.1
    have h2 := hu.2.1
    have hpq := prod_in h1 h2
    have hphi := phi_is p q
    have hlt := @invI_lt e ((p - 1) * (q - 1))
    have hge := invI_ge e ((p - 1) * (q - 1))
    have C4 := fun w => cIn5 (p * q) 2147483648 3000000000 w
    have CI := fun w => cInvS e ((p - 1) * (q - 1)) w
    by_cases hr : 2147483648 ≤ p * q ∧ p * q ≤ 3000000000
    · rw [dec_t hr] at C4
      have hmod : e.tmod ((p - 1) * (q - 1)) = e := Int.tmod_eq_of_lt (by omega) (by omega)
      have hemod : e % ((p - 1) * (q - 1)) = e := Int.emod_eq_of_lt (by omega) (by omega)
      have hnz : ¬ (p - 1) * (q - 1) = 0 := by omega
      obtain ⟨P, hP⟩ : ∃ P, p * q = P := ⟨_, rfl⟩
      obtain ⟨F, hF⟩ : ∃ F, (p - 1) * (q - 1) = F := ⟨_, rfl⟩
      have w1 : wrap64 (p * q) = P := (IntWalk.wrap64_in _ (by omega)).trans hP
      have w2 : IntKind.i64.wrap (p * q) = P := (IntWalk.i64_in _ (by omega)).trans hP
      have w3 : wrap64 ((p - 1) * (q - 1)) = F := (IntWalk.wrap64_in _ (by omega)).trans hF
      have w4 : IntKind.i64.wrap ((p - 1) * (q - 1)) = F := (IntWalk.i64_in _ (by omega)).trans hF
      have w5 : wrap64 e = e := IntWalk.wrap64_in _ (by omega)
      obtain ⟨D, hD⟩ : ∃ D, invI e ((p - 1) * (q - 1)) = D := ⟨_, rfl⟩
      by_cases h3 : 3 ≤ invI e ((p - 1) * (q - 1))
      · obtain ⟨k1, k2, k3, k4⟩ := kf_yes (show kfP p q e from ⟨hu, he, hr, h3⟩)
        rw [k1, k2, k3, k4, hP, hD]
        rw [hD, hF] at CI
        rw [hP] at C4
        rw [hF] at hmod hemod hnz
        have hd : decide (D < 3) = false := by simp; omega
        clear hu hr h3 hpq hphi hlt hge k1 k2 k3 k4 hP hF hD hemod
        go_enter Try.func14, Try.ntmps14
        go_wp2_with fail
        refine (C1 _).mono ?_
        rintro x w' ⟨rfl, rfl⟩
        go_wp2_with fail
        refine (C2 _).mono ?_
        rintro x w' ⟨rfl, rfl⟩
        go_wp2_with fail
        refine (C3 _).mono ?_
        rintro x w' ⟨rfl, rfl⟩
        go_wp2_with fail
        refine (C4 _).mono ?_
        rintro x w' ⟨rfl, rfl⟩
        go_wp2_with fail
        refine (CI _).mono ?_
        rintro x w' ⟨rfl, rfl⟩
        go_wp2_with fail
        refine bodyPost_ret (v := .tuple #[.agg #[.int .i64 P, .int .i64 e, .int .i64 D], .bool true]) (by simp [results, Try.results14, go_sem]) rfl ⟨rfl, ?_⟩
        repeat first | exact Below.refl _ _ | refine Below.setCell ?_ (by simp; try omega) _ | refine Below.alloc ?_ (by simp; try omega) _
      · obtain ⟨k1, k2, k3, k4⟩ := kf_no (fun x : kfP p q e => h3 x.2.2.2)
        rw [k1, k2, k3, k4]
        rw [hD, hF] at CI
        rw [hP] at C4
        rw [hF] at hmod hemod hnz
        have hd : decide (D < 3) = true := by simp; omega
        clear hu hr h3 hpq hphi hlt hge k1 k2 k3 k4 hP hF hD hemod
        go_enter Try.func14, Try.ntmps14
        go_wp2_with fail
        refine (C1 _).mono ?_
        rintro x w' ⟨rfl, rfl⟩
        go_wp2_with fail
        refine (C2 _).mono ?_
        rintro x w' ⟨rfl, rfl⟩
        go_wp2_with fail
        refine (C3 _).mono ?_
        rintro x w' ⟨rfl, rfl⟩
        go_wp2_with fail
        refine (C4 _).mono ?_
        rintro x w' ⟨rfl, rfl⟩
        go_wp2_with fail
        refine (CI _).mono ?_
        rintro x w' ⟨rfl, rfl⟩
        go_wp2_with fail
        refine bodyPost_ret (v := .tuple #[.agg #[.int .i64 0, .int .i64 0, .int .i64 0], .bool false]) (by simp [results, Try.results14, go_sem]) rfl ⟨rfl, ?_⟩
        repeat first | exact Below.refl _ _ | refine Below.setCell ?_ (by simp; try omega) _ | refine Below.alloc ?_ (by simp; try omega) _
    · obtain ⟨k1, k2, k3, k4⟩ := kf_no (fun x : kfP p q e => hr x.2.2.1)
      rw [k1, k2, k3, k4]
      rw [dec_f hr] at C4
      obtain ⟨P, hP⟩ : ∃ P, p * q = P := ⟨_, rfl⟩
      have w1 : wrap64 (p * q) = P := (IntWalk.wrap64_in _ (by omega)).trans hP
      have w2 : IntKind.i64.wrap (p * q) = P := (IntWalk.i64_in _ (by omega)).trans hP
      rw [hP] at C4
      clear CI hu hr hpq hphi hlt hge k1 k2 k3 k4 hP
      go_enter Try.func14, Try.ntmps14
      go_wp2_with fail
      refine (C1 _).mono ?_
      rintro x w' ⟨rfl, rfl⟩
      go_wp2_with fail
      refine (C2 _).mono ?_
      rintro x w' ⟨rfl, rfl⟩
      go_wp2_with fail
      refine (C3 _).mono ?_
      rintro x w' ⟨rfl, rfl⟩
      go_wp2_with fail
      refine (C4 _).mono ?_
      rintro x w' ⟨rfl, rfl⟩
      go_wp2_with fail
      refine bodyPost_ret (v := .tuple #[.agg #[.int .i64 0, .int .i64 0, .int .i64 0], .bool false]) (by simp [results, Try.results14, go_sem]) rfl ⟨rfl, ?_⟩
      repeat first | exact Below.refl _ _ | refine Below.setCell ?_ (by simp; try omega) _ | refine Below.alloc ?_ (by simp; try omega) _
  · obtain ⟨k1, k2, k3, k4⟩ := kf_no (fun x : kfP p q e => hg ⟨x.1, x.2.1⟩)
    rw [k1, k2, k3, k4]
    exact cKeyOfS_no1 p q e w hg

end Go.Proofs.Ytfglgadmcgkjkaa
