/- Contracts of Prime, of the program and of the specification: true just where no number whose square is not above n goes into n. Contracts of KeyOf, of the program and of the specification: one answer. Contracts of what the laws hand keys in by, and hold keys against each other by. -/
import Derived.Test.YtgdfeicojgnoaaaGreatDoorRows
import Derived.Test.YtgdfeicojgnoaaaGreatDoorM24
import Derived.Test.YtgdfeicojgnoaaaGreatDoorM25
import Derived.WalkKit
import Derived.Below
namespace Go.Proofs.YtgdfeicojgnoaaaGreatDoor
open Go.RowKit
set_option linter.unusedVariables false
set_option linter.unusedSimpArgs false

/-- From 2 to 65535, and none from 2 on goes into it whose square is not above it. -/
def isPr (n : Int) : Prop := (2 ≤ n ∧ n ≤ 65535) ∧ ∀ k : Nat, 2 ≤ k → k * k ≤ n.toNat → ¬ n.toNat % k = 0

theorem sq_wrap (k P : Nat) (hk : k ≤ 256) (h : k * k = P) : IntKind.i64.wrap ((k : Int) * (k : Int)) = (P : Int) ∧ wrap64 ((k : Int) * (k : Int)) = (P : Int) := by
  have h1 : k * k ≤ 256 * 256 := Nat.mul_le_mul hk hk
  have e : (k : Int) * (k : Int) = (P : Int) := by rw [← h]; simp
  rw [e]
  exact ⟨IntWalk.i64_in _ (by omega), IntWalk.wrap64_in _ (by omega)⟩

theorem rem_nat (m k : Nat) : (m : Int).tmod (k : Int) = ((m % k : Nat) : Int) := (Int.ofNat_tmod m k).symm

theorem sq_next (k m : Nat) (h : k * k ≤ m) (hm : m ≤ 65535) : k ≤ 255 := by
  rcases Nat.lt_or_ge k 256 with h' | h'
  · omega
  · have := Nat.mul_le_mul h' h'
    omega

theorem no_pr {B : Bool} {n : Int} (hB : B = true ↔ isPr n) (h : ¬ isPr n) : B = false := by
  cases B
  · rfl
  · exact absurd (hB.1 rfl) h

theorem pr_end (k m P : Nat) (hm2 : 2 ≤ m) (hm : m ≤ 65535) (hP : k * k = P) (hle : ¬ P ≤ m) (hj : ∀ j : Nat, 2 ≤ j → j < k → ¬ m % j = 0) : isPr (m : Int) := by
  refine ⟨by omega, fun j a b => ?_⟩
  have hlt : j < k := by
    rcases Nat.lt_or_ge j k with h' | h'
    · exact h'
    · have := Nat.mul_le_mul h' h'
      rw [hP] at this
      simp at b
      omega
  exact hj j a hlt

theorem cInP (x lo hi : Int) (w : World) :
    Calls Tryz.prog 71 #[.int .i64 x, .int .i64 lo, .int .i64 hi] w fun e w' => e = .returned (.bool (decide (lo ≤ x ∧ x ≤ hi))) ∧ w' = w := by
  go_enter Tryz.func71, Tryz.ntmps71
  go_wp2
  all_goals go_ret
  all_goals exact ⟨by congr 2; simp; try omega, rfl⟩

set_option maxHeartbeats 1000000 in
theorem cPrimeS (n : Int) (B : Bool) (hB : B = true ↔ isPr n) (w : World) :
    Calls Tryz.prog 140 #[.int .i64 n] w fun e w' => e = .returned (.bool B) ∧ w' = w := by
  have HB : Hid (B = true ↔ isPr n) := hB
  clear hB
  have C := fun w => cInP n 2 65535 w
  by_cases h : 2 ≤ n ∧ n ≤ 65535
  · rw [decide_eq_true h] at C
    obtain ⟨m, rfl⟩ : ∃ m : Nat, n = m := ⟨n.toNat, by omega⟩
    have hm : m ≤ 65535 := by omega
    have hm2 : 2 ≤ m := by omega
    clear h
    go_enter Tryz.func140, Tryz.ntmps140
    go_wp2_with fail
    refine (C _).mono ?_
    rintro e w' ⟨rfl, rfl⟩
    go_wp2
    go_loop [3] (fun d => ∃ k : Nat, d = .int .i64 k ∧ 2 ≤ k ∧ k ≤ 256 ∧ ∀ j : Nat, 2 ≤ j → j < k → ¬ m % j = 0) (fun d => 256 - (intOf d).toNat)
    case atStart => exact ⟨2, rfl, Nat.le_refl _, by decide, fun j h h' => by omega⟩
    case round =>
      obtain ⟨k, rfl, hk2, hk, hj⟩ := hrel
      have HJ : Hid (∀ j : Nat, 2 ≤ j → j < k → ¬ m % j = 0) := hj
      clear hj
      obtain ⟨P, hP⟩ : ∃ P : Nat, k * k = P := ⟨_, rfl⟩
      obtain ⟨e1, e2⟩ := sq_wrap k P hk hP
      have hz : ¬ (k : Int) = 0 := by omega
      have er := rem_nat m k
      obtain ⟨R, hR⟩ : ∃ R : Nat, m % k = R := ⟨_, rfl⟩
      rw [hR] at er
      have HR : Hid (m % k = R) := hR
      have HP : Hid (k * k = P) := hP
      clear hR hP
      by_cases hle : P ≤ m
      · have hd : decide ((P : Int) ≤ (m : Int)) = true := by simp; omega
        have hk255 : k ≤ 255 := sq_next k m (by rw [HP.out]; exact hle) hm
        by_cases h0 : R = 0
        · have hq : ((R : Int) == 0) = true := by simp; omega
          go_wp2
          go_ret
          exact ⟨by rw [no_pr HB.out (fun h => absurd (HR.out.trans h0) (h.2 k hk2 (by rw [HP.out]; exact hle)))]; rfl, rfl⟩
        · have hq : ((R : Int) == 0) = false := by simp; omega
          go_wp2
          go_round
          case rel =>
            refine ⟨k + 1, by go_num, by omega, by omega, fun j a b => ?_⟩
            rcases Nat.lt_or_ge j k with h' | h'
            · exact HJ.out j a h'
            · have : j = k := by omega
              subst this
              rw [HR.out]
              exact h0
          case measure => simp [intOf]; omega
      · have hd : decide ((P : Int) ≤ (m : Int)) = false := by simp; omega
        go_wp2
        go_ret
        exact ⟨by rw [HB.out.2 (pr_end k m P hm2 hm HP.out hle HJ.out)]; rfl, rfl⟩
  · rw [decide_eq_false h] at C
    go_enter Tryz.func140, Tryz.ntmps140
    go_wp2_with fail
    refine (C _).mono ?_
    rintro e w' ⟨rfl, rfl⟩
    go_wp2
    go_ret
    exact ⟨by rw [no_pr HB.out (fun h' => h h'.1)]; rfl, rfl⟩

end Go.Proofs.YtgdfeicojgnoaaaGreatDoor

namespace Go.Proofs.YtgdfeicojgnoaaaGreatDoor
open Go.RowKit
set_option linter.unusedVariables false
set_option linter.unusedSimpArgs false

/-- Two unlike primes and a power that make a key. -/
def kfP (p q e : Int) : Prop :=
  ((¬ p = q ∧ isPr p) ∧ isPr q) ∧ (3 ≤ e ∧ e ≤ 65537 ∧ e % 2 = 1) ∧ (2147483648 ≤ p * q ∧ p * q ≤ 3000000000) ∧ 3 ≤ invI e ((p - 1) * (q - 1))

noncomputable def kfB (p q e : Int) : Bool := open Classical in decide (kfP p q e)

noncomputable def kfN (p q e : Int) : Int := open Classical in if kfP p q e then p * q else 0

noncomputable def kfE (p q e : Int) : Int := open Classical in if kfP p q e then e else 0

noncomputable def kfD (p q e : Int) : Int := open Classical in if kfP p q e then invI e ((p - 1) * (q - 1)) else 0

theorem kf_yes {p q e : Int} (h : kfP p q e) : kfB p q e = true ∧ kfN p q e = p * q ∧ kfE p q e = e ∧ kfD p q e = invI e ((p - 1) * (q - 1)) := by
  unfold kfB kfN kfE kfD
  simp [h]

theorem kf_no {p q e : Int} (h : ¬ kfP p q e) : kfB p q e = false ∧ kfN p q e = 0 ∧ kfE p q e = 0 ∧ kfD p q e = 0 := by
  unfold kfB kfN kfE kfD
  simp [h]

theorem prod_in {p q : Int} (hp : 2 ≤ p ∧ p ≤ 65535) (hq : 2 ≤ q ∧ q ≤ 65535) : 0 ≤ p * q ∧ p * q ≤ 4294836225 := by
  constructor
  · exact Int.mul_nonneg (by omega) (by omega)
  · have := Int.mul_le_mul hp.2 hq.2 (by omega) (by omega)
    omega

theorem phi_is (p q : Int) : (p - 1) * (q - 1) = p * q - p - q + 1 := by
  rw [Int.sub_mul, Int.mul_sub]
  omega

theorem invI_lt {a n : Int} : invI a n = 0 ∨ invI a n < n := by
  by_cases h : invI a n = 0
  · exact .inl h
  · exact .inr (invI_is h).2.2.1

theorem invI_ge (a n : Int) : 0 ≤ invI a n := by
  by_cases h : invI a n = 0
  · omega
  · have := (invI_is h).2.1
    omega

theorem lk_kf {p q e : Int} (hu : (¬ p = q ∧ isPr p) ∧ isPr q) (he : 3 ≤ e ∧ e ≤ 65537 ∧ e % 2 = 1) : lkB (p * q) e (invI e ((p - 1) * (q - 1))) = true ↔ kfP p q e := by
  have h1 := hu.1.2.1
  have h2 := hu.2.1
  have e1 := phi_is p q
  have := @invI_lt e ((p - 1) * (q - 1))
  unfold lkB kfP
  rw [decide_eq_true_iff]
  constructor
  · rintro ⟨⟨a, b⟩, c⟩
    exact ⟨hu, he, a, c.1⟩
  · rintro ⟨_, _, a, c⟩
    exact ⟨⟨a, he.1, by omega⟩, c, by omega⟩

end Go.Proofs.YtgdfeicojgnoaaaGreatDoor

namespace Go.Proofs.YtgdfeicojgnoaaaGreatDoor
open Go.RowKit
set_option linter.unusedVariables false
set_option linter.unusedSimpArgs false

theorem cToKey (n e d : Int) (w : World) :
    Calls Tryz.prog 123 #[.agg #[.int .i64 n, .int .i64 e, .int .i64 d]] w fun x w' => x = .returned (.agg #[.int .i64 n, .int .i64 e, .int .i64 d]) ∧ Below w.heap.size w w' := by
  go_enter Tryz.func123, Tryz.ntmps123
  go_wp2
  refine bodyPost_ret (v := .agg #[.int .i64 n, .int .i64 e, .int .i64 d]) (by simp [results, Tryz.results123, go_sem]) rfl ⟨rfl, ?_⟩
  repeat first | exact Below.refl _ _ | refine Below.setCell ?_ (by simp; try omega) _ | refine Below.alloc ?_ (by simp; try omega) _

/-- A key is as it is. -/
theorem cEqKey (n e d : Int) (w : World) :
    Calls Tryz.prog 125 #[.agg #[.int .i64 n, .int .i64 e, .int .i64 d], .agg #[.int .i64 n, .int .i64 e, .int .i64 d]] w fun x w' => x = .returned (.bool true) ∧ Below w.heap.size w w' := by
  go_enter Tryz.func125, Tryz.ntmps125
  go_wp2
  go_ret
  refine ⟨rfl, ?_⟩
  repeat first | exact Below.refl _ _ | refine Below.setCell ?_ (by simp; try omega) _ | refine Below.alloc ?_ (by simp; try omega) _

end Go.Proofs.YtgdfeicojgnoaaaGreatDoor
