/- Plain mathematics of powers modulo n: squaring and halving keeps the product of what is gathered and what is left. -/
import Derived.IntWalk
namespace Go.Proofs.Ytfglgadmcgkjkaa

def powOf (a e n : Nat) : Nat := a ^ e % n

theorem powOf_lt (a e n : Nat) (hn : 0 < n) : powOf a e n < n := Nat.mod_lt _ hn

theorem pow_sq (a k n : Nat) : (a * a % n) ^ k % n = a ^ (2 * k) % n := by
  rw [← Nat.pow_mod, ← Nat.pow_two, ← Nat.pow_mul]

/-- An even exponent. -/
theorem pow_even (p a e n : Nat) (he : e % 2 = 0) : p * (a * a % n) ^ (e / 2) % n = p * a ^ e % n := by
  rw [Nat.mul_mod, pow_sq, ← Nat.mul_mod]
  have : 2 * (e / 2) = e := by omega
  rw [this]

/-- An odd one. -/
theorem pow_odd (p a e n : Nat) (he : e % 2 = 1) : (p * a % n) * (a * a % n) ^ (e / 2) % n = p * a ^ e % n := by
  rw [Nat.mul_mod, pow_sq, Nat.mod_mod, ← Nat.mul_mod]
  have h : e = 2 * (e / 2) + 1 := by omega
  have h2 : a ^ e = a ^ (2 * (e / 2)) * a := by
    conv => lhs; rw [h, Nat.pow_succ]
  rw [h2, Nat.mul_assoc, Nat.mul_comm a (a ^ (2 * (e / 2)))]

theorem powOf_add (a e k n : Nat) : powOf a (e + k) n = (powOf a e n * powOf a k n) % n := by
  unfold powOf
  rw [Nat.pow_add, Nat.mul_mod]

theorem powOf_zero (a n : Nat) (hn : 2 ≤ n) : powOf a 0 n = 1 := by
  unfold powOf
  rw [Nat.pow_zero]
  exact Nat.mod_eq_of_lt (by omega)

theorem powOf_one (a n : Nat) (hn : a < n) : powOf a 1 n = a := by
  unfold powOf
  rw [Nat.pow_one]
  exact Nat.mod_eq_of_lt hn

theorem half_tdiv (e : Nat) : (e : Int).tdiv 2 = ((e / 2 : Nat) : Int) := (Int.ofNat_tdiv e 2).symm

theorem half_tmod (e : Nat) : (e : Int).tmod 2 = ((e % 2 : Nat) : Int) := (Int.ofNat_tmod e 2).symm

end Go.Proofs.Ytfglgadmcgkjkaa
