/- Contracts of Power, of the program and of the specification: one answer. -/
import Derived.Test.YtfglgadmcgkjkabPTimes
import Derived.Test.YtfglgadmcgkjkabPPowM
namespace Go.Proofs.Ytfglgadmcgkjkab
open Go.RowKit
set_option linter.unusedVariables false
set_option linter.unusedSimpArgs false

theorem step_even (p a e n R : Nat) (he : e % 2 = 0) (hR : p * a ^ e % n = R) : p * (timesOf a a n) ^ (e / 2) % n = R := by
  unfold timesOf
  rw [pow_even p a e n he]
  exact hR

theorem step_odd (p a e n R : Nat) (he : e % 2 = 1) (hR : p * a ^ e % n = R) : timesOf p a n * (timesOf a a n) ^ (e / 2) % n = R := by
  unfold timesOf
  rw [pow_odd p a e n he]
  exact hR

theorem step_end (p a n R : Nat) (hp : p < n) (hR : p * a ^ 0 % n = R) : p = R := by
  rw [Nat.pow_zero, Nat.mul_one, Nat.mod_eq_of_lt hp] at hR
  exact hR

theorem step_start (a e n : Nat) : 1 * a ^ e % n = powOf a e n := by
  unfold powOf
  rw [Nat.one_mul]

/-- What Power answers. -/
noncomputable def powI (a e n : Int) : Int := open Classical in if restOk a n ∧ 0 ≤ e then (powOf a.toNat e.toNat n.toNat : Nat) else -1

theorem powI_ok {a e n : Int} (h : restOk a n) (k : 0 ≤ e) : powI a e n = (powOf a.toNat e.toNat n.toNat : Nat) := by
  unfold powI
  rw [if_pos ⟨h, k⟩]

theorem powI_no1 {a e n : Int} (h : ¬ restOk a n) : powI a e n = -1 := by
  unfold powI
  rw [if_neg (fun x => h x.1)]

theorem powI_no2 {a e n : Int} (h : ¬ 0 ≤ e) : powI a e n = -1 := by
  unfold powI
  rw [if_neg (fun x => h x.2)]

end Go.Proofs.Ytfglgadmcgkjkab
