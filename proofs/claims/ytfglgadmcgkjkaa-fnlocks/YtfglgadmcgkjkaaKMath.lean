/- Plain mathematics of keys: what is raised to d and then to e modulo a product of two primes is itself, where e times d is 1 modulo the product of both less one (Fermat and Euler). -/
import Derived.Test.YtfglgadmcgkjkaaPFerm
namespace Go.Proofs.Ytfglgadmcgkjkaa

theorem PrN.fermatK {p : Nat} (hp : PrN p) (h k : Nat) : h ^ (1 + k * (p - 1)) % p = h % p := by
  have h2 := hp.1
  rcases hp.or (b := h) with hd | hc
  · have h0 : h % p = 0 := Nat.mod_eq_zero_of_dvd hd
    rw [Nat.pow_mod, h0, Nat.zero_pow (by omega), Nat.zero_mod]
  · rw [Nat.pow_add, Nat.pow_one, Nat.mul_comm k (p - 1), Nat.pow_mul, Nat.mul_mod, Nat.pow_mod (h ^ (p - 1)), hp.fermat1 h hc, Nat.one_pow]
    rw [Nat.mod_eq_of_lt (show 1 < p by omega), Nat.mul_one, Nat.mod_mod]

theorem crt {p q x y : Nat} (hc : Nat.Coprime p q) (hp : x % p = y % p) (hq : x % q = y % q) : x % (p * q) = y % (p * q) := by
  have key : ∀ x y : Nat, y ≤ x → x % p = y % p → x % q = y % q → x % (p * q) = y % (p * q) := by
    intro x y hle hp hq
    have d1 : p ∣ x - y := Nat.dvd_of_mod_eq_zero (Nat.sub_mod_eq_zero_of_mod_eq hp)
    have d2 : q ∣ x - y := Nat.dvd_of_mod_eq_zero (Nat.sub_mod_eq_zero_of_mod_eq hq)
    obtain ⟨c, hcc⟩ := hc.mul_dvd_of_dvd_of_dvd d1 d2
    have e : x = y + p * q * c := by omega
    rw [e, Nat.add_mul_mod_self_left]
  rcases Nat.le_total y x with h | h
  · exact key x y h hp hq
  · exact (key y x h hp.symm hq.symm).symm

theorem PrN.unlike {p q : Nat} (hp : PrN p) (hq : PrN q) (hne : ¬ p = q) : Nat.Coprime p q := by
  rcases hp.or (b := q) with hd | hc
  · have hle : p ≤ q := Nat.le_of_dvd (by have := hq.1; omega) hd
    exact absurd hd (hq.2 p hp.1 (by omega))
  · exact hc

/-- Fermat and Euler. -/
theorem euler {p q e d h : Nat} (hp : PrN p) (hq : PrN q) (hne : ¬ p = q) (hed : e * d % ((p - 1) * (q - 1)) = 1) (hh : h < p * q) : h ^ (e * d) % (p * q) = h := by
  have hk := Nat.div_add_mod (e * d) ((p - 1) * (q - 1))
  rw [hed] at hk
  generalize e * d / ((p - 1) * (q - 1)) = k at hk
  have e1 : e * d = 1 + (k * (q - 1)) * (p - 1) := by
    rw [← hk, Nat.add_comm, Nat.mul_comm ((p - 1) * (q - 1)) k, Nat.mul_comm (p - 1) (q - 1), ← Nat.mul_assoc]
  have e2 : e * d = 1 + (k * (p - 1)) * (q - 1) := by
    rw [← hk, Nat.add_comm, Nat.mul_comm ((p - 1) * (q - 1)) k, ← Nat.mul_assoc]
  have m : h ^ (e * d) % (p * q) = h % (p * q) := by
    refine crt (hp.unlike hq hne) ?_ ?_
    · rw [e1]; exact hp.fermatK h _
    · rw [e2]; exact hq.fermatK h _
  rw [m, Nat.mod_eq_of_lt hh]

/-- What was raised to d is raised back by e. -/
theorem euler_back {p q e d h : Nat} (hp : PrN p) (hq : PrN q) (hne : ¬ p = q) (hed : e * d % ((p - 1) * (q - 1)) = 1) (hh : h < p * q) : (h ^ d % (p * q)) ^ e % (p * q) = h := by
  rw [← Nat.pow_mod, ← Nat.pow_mul, Nat.mul_comm d e]
  exact euler hp hq hne hed hh

/-- No two are raised to the same. -/
theorem euler_inj {p q e d h g : Nat} (hp : PrN p) (hq : PrN q) (hne : ¬ p = q) (hed : e * d % ((p - 1) * (q - 1)) = 1) (hh : h < p * q) (hg : g < p * q) (hs : h ^ d % (p * q) = g ^ d % (p * q)) : h = g := by
  rw [← euler_back hp hq hne hed hh, hs, euler_back hp hq hne hed hg]

/-- A number of which no smaller one from 2 on, up to its root, is a part: looked over. -/
theorem prN_look {p : Nat} (h2 : 2 ≤ p) (hp : p ≤ 65535) (h : ∀ k, k < 256 → 2 ≤ k → ¬ p % k = 0 ∨ p < k * k) : PrN p := by
  refine ⟨h2, fun k a b => pr_all h2 (fun k a b c => ?_) k a b⟩
  have hk : k < 256 := by
    rcases Nat.lt_or_ge k 256 with h' | h'
    · exact h'
    · have := Nat.mul_le_mul h' h'
      omega
  rcases h k hk a with h | h
  · exact h c
  · omega

theorem pr65521 : PrN 65521 := prN_look (by decide) (by decide) (by decide +kernel)
theorem pr40009 : PrN 40009 := prN_look (by decide) (by decide) (by decide +kernel)
theorem pr65519 : PrN 65519 := prN_look (by decide) (by decide) (by decide +kernel)
theorem pr40013 : PrN 40013 := prN_look (by decide) (by decide) (by decide +kernel)

end Go.Proofs.Ytfglgadmcgkjkaa
