/- Contracts of KeyOf, of the program and of the specification: one answer. -/
import Derived.Test.YtfglgadmcgkjkaaKSpec
import Derived.Test.YtfglgadmcgkjkaaPInvS
import Derived.Test.YtfglgadmcgkjkaaPPrime
namespace Go.Proofs.Ytfglgadmcgkjkaa
open Go.RowKit
set_option linter.unusedVariables false
set_option linter.unusedSimpArgs false

/-- Two unlike primes and a power that make a key. -/
def kfP (p q e : Int) : Prop :=
  ((¬ p = q ∧ isPr p) ∧ isPr q) ∧ (3 ≤ e ∧ e ≤ 65537 ∧ e % 2 = 1) ∧ (2147483648 ≤ p * q ∧ p * q ≤ 3000000000) ∧ 3 ≤ invI e ((p - 1) * (q - 1))

noncomputable def kfB (p q e : Int) : Bool := open Classical in decide (kfP p q e)

noncomputable def kfN (p q e : Int) : Int := open Classical in if kfP p q e then p * q else 0

noncomputable def kfE (p q e : Int) : Int := open Classical in if kfP p q e then e else 0

noncomputable def kfD (p q e : Int) : Int := open Classical in if kfP p q e then invI e ((p - 1) * (q - 1)) else 0

theorem kf_yes {p q e : Int} (h : kfP p q e) : kfB p q e = true ∧ kfN p q e = p * q ∧ kfE p q e = e ∧ kfD p q e = invI e ((p - 1) * (q - 1)) := by
  unfold kfB kfN kfE kfD
  simp [h]

theorem kf_no {p q e : Int} (h : ¬ kfP p q e) : kfB p q e = false ∧ kfN p q e = 0 ∧ kfE p q e = 0 ∧ kfD p q e = 0 := by
  unfold kfB kfN kfE kfD
  simp [h]

theorem prod_in {p q : Int} (hp : 2 ≤ p ∧ p ≤ 65535) (hq : 2 ≤ q ∧ q ≤ 65535) : 0 ≤ p * q ∧ p * q ≤ 4294836225 := by
  constructor
  · exact Int.mul_nonneg (by omega) (by omega)
  · have := Int.mul_le_mul hp.2 hq.2 (by omega) (by omega)
    omega

theorem phi_is (p q : Int) : (p - 1) * (q - 1) = p * q - p - q + 1 := by
  rw [Int.sub_mul, Int.mul_sub]
  omega

theorem invI_lt {a n : Int} : invI a n = 0 ∨ invI a n < n := by
  by_cases h : invI a n = 0
  · exact .inl h
  · exact .inr (invI_is h).2.2.1

theorem invI_ge (a n : Int) : 0 ≤ invI a n := by
  by_cases h : invI a n = 0
  · omega
  · have := (invI_is h).2.1
    omega

theorem lk_kf {p q e : Int} (hu : (¬ p = q ∧ isPr p) ∧ isPr q) (he : 3 ≤ e ∧ e ≤ 65537 ∧ e % 2 = 1) : lkB (p * q) e (invI e ((p - 1) * (q - 1))) = true ↔ kfP p q e := by
  have h1 := hu.1.2.1
  have h2 := hu.2.1
  have e1 := phi_is p q
  have := @invI_lt e ((p - 1) * (q - 1))
  unfold lkB kfP
  rw [decide_eq_true_iff]
  constructor
  · rintro ⟨⟨a, b⟩, c⟩
    exact ⟨hu, he, a, c.1⟩
  · rintro ⟨_, _, a, c⟩
    exact ⟨⟨a, he.1, by omega⟩, c, by omega⟩

theorem cUnlike (p q : Int) (B : Bool) (hB : B = true ↔ (¬ p = q ∧ isPr p) ∧ isPr q) (w : World) :
    Calls Try.prog 31 #[.int .i64 p, .int .i64 q] w fun x w' => x = .returned (.bool B) ∧ w' = w := by
  by_cases h : p = q
  · have hb : B = false := by
      cases B
      · rfl
      · exact absurd h (hB.1 rfl).1.1
    rw [hb]
    have hq : (p != q) = false := by simpa using h
    clear hB hb
    go_enter Try.func31, Try.ntmps31
    go_wp2_with fail
    go_ret
    exact ⟨rfl, rfl⟩
  · have hq : (p != q) = true := by simpa using h
    by_cases h1 : isPr p
    · have C1 := fun w => cPrimeI p true (by simp [h1]) w
      have C2 := fun w => cPrimeI q B (by rw [hB]; simp [h, h1]) w
      clear hB h h1
      go_enter Try.func31, Try.ntmps31
      go_wp2_with fail
      refine (C1 _).mono ?_
      rintro x w' ⟨rfl, rfl⟩
      go_wp2_with fail
      refine (C2 _).mono ?_
      rintro x w' ⟨rfl, rfl⟩
      go_wp2_with fail
      go_ret
      exact ⟨rfl, rfl⟩
    · have hb : B = false := by
        cases B
        · rfl
        · exact absurd (hB.1 rfl).1.2 h1
      rw [hb]
      have C1 := fun w => cPrimeI p false (by simp [h1]) w
      clear hB hb h h1
      go_enter Try.func31, Try.ntmps31
      go_wp2_with fail
      refine (C1 _).mono ?_
      rintro x w' ⟨rfl, rfl⟩
      go_wp2_with fail
      go_ret
      exact ⟨rfl, rfl⟩

theorem cMade (e : Int) (w : World) :
    Calls Try.prog 32 #[.int .i64 e] w fun x w' => x = .returned (.bool (decide (3 ≤ e ∧ e ≤ 65537 ∧ e % 2 = 1))) ∧ w' = w := by
  by_cases h1 : 3 ≤ e
  · by_cases h2 : e ≤ 65537
    · by_cases h3 : e % 2 = 1
      · rw [dec_t ⟨h1, h2, h3⟩]
        go_enter Try.func32, Try.ntmps32
        go_wp2
        go_ret
        exact ⟨rfl, rfl⟩
      · rw [dec_f (fun x => h3 x.2.2)]
        have hq : (e % 2 == 1) = false := by simpa using h3
        go_enter Try.func32, Try.ntmps32
        go_wp2
        go_ret
        exact ⟨rfl, rfl⟩
    · rw [dec_f (fun x => h2 x.2.1)]
      go_enter Try.func32, Try.ntmps32
      go_wp2
      go_ret
      exact ⟨rfl, rfl⟩
  · rw [dec_f (fun x => h1 x.1)]
    go_enter Try.func32, Try.ntmps32
    go_wp2
    go_ret
    exact ⟨rfl, rfl⟩

set_option maxHeartbeats 1000000 in
theorem cKeyOfI (p q e : Int) (w : World) :
    Calls Try.prog 11 #[.int .i64 p, .int .i64 q, .int .i64 e] w fun x w' => x = .returned (.tuple #[.agg #[.int .i64 (kfN p q e), .int .i64 (kfE p q e), .int .i64 (kfD p q e)], .bool (kfB p q e)]) ∧ Below w.heap.size w w' := by
  by_cases hu : (¬ p = q ∧ isPr p) ∧ isPr q
  · have CU := fun w => cUnlike p q true (by simp [hu]) w
    have CM := fun w => cMade e w
    by_cases he : 3 ≤ e ∧ e ≤ 65537 ∧ e % 2 = 1
    · rw [dec_t he] at CM
      have hlk := lk_kf hu he
      have h1 := hu.1.2.1
      have h2 := hu.2.1
      have hpq := prod_in h1 h2
      have hphi := phi_is p q
      have CI := fun w => cInvI e ((p - 1) * (q - 1)) w
      have CL := fun w => cLocks (p * q) e (invI e ((p - 1) * (q - 1))) w
      have CT := fun w => cTold (p * q) e (invI e ((p - 1) * (q - 1))) w
      obtain ⟨P, hP⟩ : ∃ P, p * q = P := ⟨_, rfl⟩
      obtain ⟨F, hF⟩ : ∃ F, (p - 1) * (q - 1) = F := ⟨_, rfl⟩
      have w1 : wrap64 (p * q) = P := (IntWalk.wrap64_in _ (by omega)).trans hP
      have w2 : IntKind.i64.wrap (p * q) = P := (IntWalk.i64_in _ (by omega)).trans hP
      have w3 : wrap64 ((p - 1) * (q - 1)) = F := (IntWalk.wrap64_in _ (by omega)).trans hF
      have w4 : IntKind.i64.wrap ((p - 1) * (q - 1)) = F := (IntWalk.i64_in _ (by omega)).trans hF
      obtain ⟨D, hD⟩ : ∃ D, invI e ((p - 1) * (q - 1)) = D := ⟨_, rfl⟩
      by_cases hk : kfP p q e
      · obtain ⟨k1, k2, k3, k4⟩ := kf_yes hk
        rw [k1, k2, k3, k4, hP, hD]
        rw [hlk.2 hk] at CL
        rw [hP, hD] at CL CT
        rw [hD] at CI
        rw [hF] at CI
        clear hu he hk hlk hpq hphi k1 k2 k3 k4 hP hF hD
        go_enter Try.func11, Try.ntmps11
        go_wp2_with fail
        refine (CU _).mono ?_
        rintro x w' ⟨rfl, rfl⟩
        go_wp2_with fail
        refine (CM _).mono ?_
        rintro x w' ⟨rfl, rfl⟩
        go_wp2_with fail
        refine (CI _).mono ?_
        rintro x w1 ⟨rfl, hb⟩
        obtain ⟨hc, hf⟩ := bcell hb
        have HB : Hid (Below w.heap.size w w1) := ((Below.refl _ _).alloc (Nat.le_refl _) _).trans (hb.mono (by simp))
        have hz0 : w.heap.size < w1.heap.size := by have := hb.size; simp at this; omega
        go_wp2_with fail
        refine (CL _).mono ?_
        rintro x w2 ⟨rfl, hb2⟩
        obtain ⟨hc2, hf2⟩ := bcell hb2
        have HB2 : Hid (Below w.heap.size w w2) := bb (HB.out.alloc HB.out.size _) hb2
        have hy : w1.heap.size < w2.heap.size := by have := hb2.size; simp at this; omega
        have hy0 : w.heap.size < w2.heap.size := by omega
        go_wp2_with fail
        refine (CT _).mono ?_
        rintro x w3 ⟨rfl, hb3⟩
        obtain ⟨hc3, hf3⟩ := bcell hb3
        have HB3 : Hid (Below w.heap.size w w3) := bb HB2.out hb3
        have hx0 : w.heap.size < w1.heap.size + 1 := by omega
        go_wp2_with fail
        refine bodyPost_ret (v := .tuple #[.agg #[.int .i64 P, .int .i64 e, .int .i64 D], .bool true]) (by simp [results, Try.results11, go_sem, hc3, hc2, hc, hz0, hy, hy0, hx0]) rfl ⟨rfl, ?_⟩
        repeat first | exact HB3.out | refine Below.setCell ?_ (by simp; try omega) _ | refine Below.alloc ?_ (by simp; try omega) _
      · obtain ⟨k1, k2, k3, k4⟩ := kf_no hk
        rw [k1, k2, k3, k4]
        have hlf : lkB (p * q) e (invI e ((p - 1) * (q - 1))) = false := by
          cases hcc : lkB (p * q) e (invI e ((p - 1) * (q - 1)))
          · rfl
          · exact absurd (hlk.1 hcc) hk
        rw [hlf] at CL
        rw [hP, hD] at CL
        rw [hD, hF] at CI
        clear CT hu he hk hlk hlf hpq hphi k1 k2 k3 k4 hP hF hD
        go_enter Try.func11, Try.ntmps11
        go_wp2_with fail
        refine (CU _).mono ?_
        rintro x w' ⟨rfl, rfl⟩
        go_wp2_with fail
        refine (CM _).mono ?_
        rintro x w' ⟨rfl, rfl⟩
        go_wp2_with fail
        refine (CI _).mono ?_
        rintro x w1 ⟨rfl, hb⟩
        obtain ⟨hc, hf⟩ := bcell hb
        have HB : Hid (Below w.heap.size w w1) := ((Below.refl _ _).alloc (Nat.le_refl _) _).trans (hb.mono (by simp))
        have hz0 : w.heap.size < w1.heap.size := by have := hb.size; simp at this; omega
        go_wp2_with fail
        refine (CL _).mono ?_
        rintro x w2 ⟨rfl, hb2⟩
        obtain ⟨hc2, hf2⟩ := bcell hb2
        have HB2 : Hid (Below w.heap.size w w2) := bb (HB.out.alloc HB.out.size _) hb2
        have hx0 : w.heap.size < w1.heap.size + 1 := by omega
        go_wp2_with fail
        refine bodyPost_ret (v := .tuple #[.agg #[.int .i64 0, .int .i64 0, .int .i64 0], .bool false]) (by simp [results, Try.results11, go_sem, hc2, hc, hz0, hx0]) rfl ⟨rfl, ?_⟩
        repeat first | exact HB2.out | refine Below.setCell ?_ (by simp; try omega) _ | refine Below.alloc ?_ (by simp; try omega) _
    · obtain ⟨k1, k2, k3, k4⟩ := kf_no (fun x : kfP p q e => he x.2.1)
      rw [k1, k2, k3, k4]
      rw [dec_f he] at CM
      clear hu he k1 k2 k3 k4
      go_enter Try.func11, Try.ntmps11
      go_wp2_with fail
      refine (CU _).mono ?_
      rintro x w' ⟨rfl, rfl⟩
      go_wp2_with fail
      refine (CM _).mono ?_
      rintro x w' ⟨rfl, rfl⟩
      go_wp2_with fail
      refine bodyPost_ret (v := .tuple #[.agg #[.int .i64 0, .int .i64 0, .int .i64 0], .bool false]) (by simp [results, Try.results11, go_sem]) rfl ⟨rfl, ?_⟩
      repeat first | exact Below.refl _ _ | refine Below.setCell ?_ (by simp; try omega) _ | refine Below.alloc ?_ (by simp; try omega) _
  · obtain ⟨k1, k2, k3, k4⟩ := kf_no (fun x : kfP p q e => hu x.1)
    rw [k1, k2, k3, k4]
    have CU := fun w => cUnlike p q false (by simp only [Bool.false_eq_true, false_iff]; exact hu) w
    clear hu k1 k2 k3 k4
    go_enter Try.func11, Try.ntmps11
    go_wp2_with fail
    refine (CU _).mono ?_
    rintro x w' ⟨rfl, rfl⟩
    go_wp2_with fail
    refine bodyPost_ret (v := .tuple #[.agg #[.int .i64 0, .int .i64 0, .int .i64 0], .bool false]) (by simp [results, Try.results11, go_sem]) rfl ⟨rfl, ?_⟩
    repeat first | exact Below.refl _ _ | refine Below.setCell ?_ (by simp; try omega) _ | refine Below.alloc ?_ (by simp; try omega) _

end Go.Proofs.Ytfglgadmcgkjkaa
