/- Plain mathematics of inverses modulo n: there is one just where nothing goes into both, it is the only one, and what both loops keep. Contracts of Inverse, of the program and of the specification: one answer. Contracts of the specification's Inverse. -/
import Derived.Test.YtgdfeicojgnoaaaGreatDoorM24
namespace Go.Proofs.YtgdfeicojgnoaaaGreatDoor
open Go.RowKit

theorem bezout (a b : Nat) : ∃ x y : Int, x * a + y * b = (Nat.gcd a b : Nat) := by
  induction a, b using Nat.gcd.induction with
  | H0 n => exact ⟨0, 1, by simp⟩
  | H1 m n hm ih =>
    obtain ⟨x, y, h⟩ := ih
    refine ⟨y - x * ((n / m : Nat) : Int), x, ?_⟩
    rw [Nat.gcd_rec m n, ← h]
    have e : (n : Int) = ((m : Int) * ((n / m : Nat) : Int) + ((n % m : Nat) : Int)) := by
      have := Nat.div_add_mod n m
      have h2 : ((m * (n / m) + n % m : Nat) : Int) = (n : Int) := by rw [this]
      rw [← h2, Int.natCast_add, Int.natCast_mul]
    conv => lhs; rw [e]
    generalize ((n / m : Nat) : Int) = q
    generalize ((n % m : Nat) : Int) = r
    generalize (m : Int) = m'
    rw [Int.sub_mul, Int.mul_add, Int.mul_assoc x q m', Int.mul_comm q m']
    omega

/-- X is the inverse of a modulo n. -/
def IsI (a n X : Int) : Prop := restOk a n ∧ 0 < X ∧ X < n ∧ (X * a) % n = 1

theorem IsI.unique {a n X Y : Int} (h : IsI a n X) (k : IsI a n Y) : X = Y := by
  obtain ⟨_, h1, h2, h3⟩ := h
  obtain ⟨_, k1, k2, k3⟩ := k
  have e1 : (X * (Y * a)) % n = X := by
    rw [Int.mul_emod, k3, Int.mul_one, Int.emod_emod]
    exact Int.emod_eq_of_lt (by omega) h2
  have e2 : (X * (Y * a)) % n = Y := by
    rw [Int.mul_left_comm, Int.mul_emod, h3, Int.mul_one, Int.emod_emod]
    exact Int.emod_eq_of_lt (by omega) k2
  rw [← e1, e2]

theorem isI_of {a n x k : Int} (hr : restOk a n) (h : x * a = 1 + k * n) : ∀ X : Int, (∃ j : Int, X = x + j * n) → 0 ≤ X → X < n → IsI a n X := by
  rintro X ⟨j, rfl⟩ h0 h1
  have hn : 2 ≤ n := hr.1.1
  have e : (x + j * n) * a = 1 + n * (k + j * a) := by
    rw [Int.add_mul, h, Int.mul_add, Int.mul_right_comm j n a, Int.mul_comm (j * a) n, Int.mul_comm k n]
    omega
  have hm : ((x + j * n) * a) % n = 1 := by
    rw [e, Int.add_mul_emod_self_left]
    exact Int.emod_eq_of_lt (by omega) (by omega)
  refine ⟨hr, ?_, h1, hm⟩
  rcases Int.lt_or_eq_of_le h0 with h' | h'
  · exact h'
  · rw [← h'] at hm
    simp at hm

theorem isI_exists {a n : Int} (hr : restOk a n) (hg : Nat.gcd a.toNat n.toNat = 1) : ∃ X, IsI a n X := by
  obtain ⟨x, y, h⟩ := bezout a.toNat n.toNat
  rw [hg] at h
  have hn : 2 ≤ n := hr.1.1
  have ea : (a.toNat : Int) = a := Int.toNat_of_nonneg hr.2.1
  have en : (n.toNat : Int) = n := Int.toNat_of_nonneg (by omega)
  rw [ea, en] at h
  have h' : x * a = 1 + (-y) * n := by rw [Int.neg_mul]; omega
  refine ⟨x % n, isI_of hr h' (x % n) ⟨-(x / n), ?_⟩ (Int.emod_nonneg _ (by omega)) (Int.emod_lt_of_pos _ (by omega))⟩
  have := Int.mul_ediv_add_emod x n
  rw [Int.neg_mul, Int.mul_comm (x / n) n]
  omega

theorem isI_gcd {a n X : Int} (h : IsI a n X) : Nat.gcd a.toNat n.toNat = 1 := by
  obtain ⟨hr, _, _, h3⟩ := h
  have hn : 2 ≤ n := hr.1.1
  have ea : (a.toNat : Int) = a := Int.toNat_of_nonneg hr.2.1
  have en : (n.toNat : Int) = n := Int.toNat_of_nonneg (by omega)
  have da : ((Nat.gcd a.toNat n.toNat : Nat) : Int) ∣ a := by
    rw [← ea]; simp only [Int.toNat_natCast]; exact Int.natCast_dvd_natCast.2 (Nat.gcd_dvd_left _ _)
  have dn : ((Nat.gcd a.toNat n.toNat : Nat) : Int) ∣ n := by
    rw [← en]; simp only [Int.toNat_natCast]; exact Int.natCast_dvd_natCast.2 (Nat.gcd_dvd_right _ _)
  have d1 : ((Nat.gcd a.toNat n.toNat : Nat) : Int) ∣ 1 := by
    rw [← h3]
    have e := Int.mul_ediv_add_emod (X * a) n
    have e2 : X * a % n = X * a - n * (X * a / n) := by omega
    rw [e2]
    exact Int.dvd_sub (Int.dvd_mul_of_dvd_right da) (Int.dvd_mul_of_dvd_left dn)
  have := Int.natCast_dvd_natCast.1 (show ((Nat.gcd a.toNat n.toNat : Nat) : Int) ∣ ((1 : Nat) : Int) from d1)
  exact Nat.dvd_one.1 this

/-- What Inverse answers. -/
noncomputable def invI (a n : Int) : Int := open Classical in if h : ∃ X, IsI a n X then h.choose else 0

theorem invI_eq {a n X : Int} (h : IsI a n X) : invI a n = X := by
  have hx : ∃ X, IsI a n X := ⟨X, h⟩
  unfold invI
  rw [dif_pos hx]
  exact hx.choose_spec.unique h

theorem invI_none {a n : Int} (h : ¬ ∃ X, IsI a n X) : invI a n = 0 := by
  unfold invI
  rw [dif_neg h]

theorem invI_range {a n : Int} (h : ¬ restOk a n) : invI a n = 0 := invI_none (fun ⟨_, k⟩ => h k.1)

theorem invI_gcd {a n : Int} (h : ¬ Nat.gcd a.toNat n.toNat = 1) : invI a n = 0 := invI_none (fun ⟨_, k⟩ => h (isI_gcd k))

theorem invI_zero {a n : Int} (h : invI a n = 0) : ¬ restOk a n ∨ ¬ Nat.gcd a.toNat n.toNat = 1 := by
  by_cases hr : restOk a n
  · refine .inr fun hg => ?_
    obtain ⟨X, hX⟩ := isI_exists hr hg
    rw [invI_eq hX] at h
    have := hX.2.1
    omega
  · exact .inl hr

theorem invI_is {a n : Int} (h : ¬ invI a n = 0) : IsI a n (invI a n) := by
  by_cases k : ∃ X, IsI a n X
  · obtain ⟨X, hX⟩ := k
    rw [invI_eq hX]
    exact hX
  · exact absurd (invI_none k) h

/-- What both loops keep. -/
def Kept (a n p q : Nat) (x y : Int) : Prop :=
  (∃ k : Int, x * a = p + k * n) ∧ (∃ k : Int, y * a = q + k * n) ∧ p * y.natAbs + q * x.natAbs = n ∧ ((0 ≤ x ∧ y ≤ 0) ∨ (x ≤ 0 ∧ 0 ≤ y)) ∧ x.natAbs ≤ n ∧ y.natAbs ≤ n

theorem abs_step (x y : Int) (k : Nat) (h : (0 ≤ x ∧ y ≤ 0) ∨ (x ≤ 0 ∧ 0 ≤ y)) : (x - k * y).natAbs = x.natAbs + k * y.natAbs ∧ ((0 ≤ y ∧ x - k * y ≤ 0) ∨ (y ≤ 0 ∧ 0 ≤ x - k * y)) := by
  rcases h with ⟨h1, h2⟩ | ⟨h1, h2⟩
  · obtain ⟨X, rfl⟩ : ∃ X : Nat, x = X := ⟨x.toNat, by omega⟩
    obtain ⟨Y, rfl⟩ : ∃ Y : Nat, y = -(Y : Int) := ⟨(-y).toNat, by omega⟩
    have e : (X : Int) - (k : Int) * -(Y : Int) = ((X + k * Y : Nat) : Int) := by rw [Int.natCast_add, Int.natCast_mul, Int.mul_neg]; omega
    rw [e]
    refine ⟨?_, .inr ⟨by omega, by omega⟩⟩
    rw [Int.natAbs_natCast, Int.natAbs_natCast, Int.natAbs_neg, Int.natAbs_natCast]
  · obtain ⟨X, rfl⟩ : ∃ X : Nat, x = -(X : Int) := ⟨(-x).toNat, by omega⟩
    obtain ⟨Y, rfl⟩ : ∃ Y : Nat, y = (Y : Int) := ⟨y.toNat, by omega⟩
    have e : -(X : Int) - (k : Int) * (Y : Int) = -((X + k * Y : Nat) : Int) := by rw [Int.natCast_add, Int.natCast_mul]; omega
    rw [e]
    refine ⟨?_, .inl ⟨by omega, by omega⟩⟩
    rw [Int.natAbs_neg, Int.natAbs_natCast, Int.natAbs_neg, Int.natAbs_natCast, Int.natAbs_natCast]

theorem Kept.step {a n p q : Nat} {x y : Int} (h : Kept a n p q x y) (hq : 0 < q) :
    Kept a n q (p % q) y (x - ((p / q : Nat) : Int) * y) ∧ (p / q) * y.natAbs ≤ n := by
  obtain ⟨⟨k1, h1⟩, ⟨k2, h2⟩, h3, h4, h5, h6⟩ := h
  have hdm := Nat.div_add_mod p q
  obtain ⟨e1, e2⟩ := abs_step x y (p / q) h4
  generalize p / q = k at *
  generalize p % q = r at *
  have e3 : q * (x - (k : Int) * y).natAbs + r * y.natAbs = n := by
    rw [e1, Nat.mul_add, ← h3, ← hdm, Nat.add_mul, Nat.mul_assoc]
    omega
  have hle : (x - (k : Int) * y).natAbs ≤ n := by
    have := Nat.mul_le_mul_right (x - (k : Int) * y).natAbs (show 1 ≤ q from hq)
    rw [Nat.one_mul] at this
    omega
  refine ⟨⟨⟨k2, h2⟩, ⟨k1 - k * k2, ?_⟩, e3, e2, h6, hle⟩, by omega⟩
  have ep : (p : Int) = (q : Int) * k + r := by rw [← hdm, Int.natCast_add, Int.natCast_mul]
  rw [Int.sub_mul, h1, Int.mul_assoc, h2, ep, Int.mul_add, Int.sub_mul, Int.mul_assoc, Int.mul_comm (q : Int) k]
  omega

theorem kept_impl (a n : Nat) (hn : 1 ≤ n) : Kept a n n a 0 1 :=
  ⟨⟨-1, by omega⟩, ⟨0, by omega⟩, by simp, .inr (by omega), by simp, by simpa using hn⟩

theorem kept_spec (a n : Nat) (hn : 1 ≤ n) : Kept a n a n 1 0 :=
  ⟨⟨0, by omega⟩, ⟨-1, by omega⟩, by simp, .inl (by omega), by simpa using hn, by simp⟩

/-- What the program makes of a factor. -/
theorem kept_end {a n : Nat} {x y : Int} (h : Kept a n 1 0 x y) (hr : restOk a n) : (- (n : Int) < x ∧ x < n) ∧ ((x < 0 → invI a n = x + n) ∧ (¬ x < 0 → invI a n = x)) := by
  obtain ⟨⟨k, h1⟩, _, _, _, h5, _⟩ := h
  have hn : 2 ≤ (n : Int) := hr.1.1
  have hk : x * (a : Int) = 1 + k * n := h1
  have no : ∀ j : Int, ¬ x = j * n := by
    intro j hj
    have e : (1 : Int) = (n : Int) * (j * a - k) := by
      rw [hj, Int.mul_right_comm] at hk
      rw [Int.mul_sub, Int.mul_comm (n : Int) (j * a), Int.mul_comm (n : Int) k]
      omega
    have hd : (n : Int) ∣ 1 := ⟨_, e⟩
    have := Int.le_of_dvd (by omega) hd
    omega
  have n1 := no 1
  have n2 := no (-1)
  have hx : - (n : Int) < x ∧ x < n := by omega
  refine ⟨hx, fun h => ?_, fun h => ?_⟩
  · exact invI_eq (isI_of hr hk (x + n) ⟨1, by omega⟩ (by omega) (by omega))
  · exact invI_eq (isI_of hr hk x ⟨0, by omega⟩ (by omega) (by omega))

/-- What the specification makes of it. -/
theorem tmod_end (x n : Int) (h1 : - n < x) (h2 : x < n) : x.tmod n = x ∧ (x < 0 → (x + n).tmod n = x + n) ∧ (¬ x < 0 → (x + n).tmod n = x) := by
  have pos : ∀ y : Int, 0 ≤ y → y < n → y.tmod n = y := fun y a b => Int.tmod_eq_of_lt a b
  refine ⟨?_, fun h => pos _ (by omega) (by omega), fun h => ?_⟩
  · by_cases h : x < 0
    · have e : x = -(-x) := by omega
      rw [e, Int.neg_tmod, pos (-x) (by omega) (by omega)]
    · exact pos x (by omega) h2
  · rw [Int.tmod_eq_emod_of_nonneg (by omega), Int.add_emod_right]
    exact Int.emod_eq_of_lt (by omega) h2

theorem fac_facts (q n : Nat) (x y : Int) (hn : n ≤ 3000000000) (h : q * y.natAbs ≤ n) (k : (x - (q : Int) * y).natAbs ≤ n) :
    ∃ M Z : Int, x - (q : Int) * y = Z ∧ wrap64 ((q : Int) * y) = M ∧ IntKind.i64.wrap ((q : Int) * y) = M ∧ wrap64 (x - M) = Z ∧ IntKind.i64.wrap (x - M) = Z := by
  have e : ((q : Int) * y).natAbs ≤ n := by rw [Int.natAbs_mul, Int.natAbs_natCast]; exact h
  generalize (q : Int) * y = M at *
  have hM : wrap64 M = M := IntWalk.wrap64_in _ (by omega)
  have hM2 : IntKind.i64.wrap M = M := IntWalk.i64_in _ (by omega)
  exact ⟨M, x - M, rfl, hM, hM2, IntWalk.wrap64_in _ (by omega), IntWalk.i64_in _ (by omega)⟩

theorem great_facts2 (g r : Nat) (hg : g ≤ 3000000000) (hr : r ≤ 3000000000) (hz : ¬ r = 0) : ∃ q k P : Nat, g / r = q ∧ g % r = k ∧ k < r ∧ (g : Int).tdiv (r : Int) = (q : Int) ∧ wrap64 (q : Int) = (q : Int)
    ∧ wrap64 ((q : Int) * (r : Int)) = (P : Int) ∧ IntKind.i64.wrap ((q : Int) * (r : Int)) = (P : Int) ∧ wrap64 ((g : Int) - (P : Int)) = (k : Int) ∧ IntKind.i64.wrap ((g : Int) - (P : Int)) = (k : Int) := by
  obtain ⟨q, k, P, h1, h2, h3, h⟩ := great_facts g r hg hr hz
  refine ⟨q, k, P, ?_, h1, h2, h3, h⟩
  rw [quo_tdiv] at h3
  omega

end Go.Proofs.YtgdfeicojgnoaaaGreatDoor

namespace Go.Proofs.YtgdfeicojgnoaaaGreatDoor
open Go.RowKit
set_option linter.unusedVariables false
set_option linter.unusedSimpArgs false

/-- The factor that the loop leaves. -/
def KeptE (a n R : Nat) (f : Int) : Prop := ∃ y : Int, Kept a n R 0 f y

end Go.Proofs.YtgdfeicojgnoaaaGreatDoor

namespace Go.Proofs.YtgdfeicojgnoaaaGreatDoor
open Go.RowKit
set_option linter.unusedVariables false
set_option linter.unusedSimpArgs false

set_option maxHeartbeats 4000000 in
theorem cInvSL (A N : Nat) (w : World) (hr : restOk A N) (HG0 : Hid (Nat.gcd A N = 1)) (a2 : A < N) (hn2 : 2 ≤ N) (hn3 : N ≤ 3000000000) :
    Calls Tryz.prog 141 #[.int .i64 A, .int .i64 N] w fun e w' => e = .returned (.int .i64 (invI A N)) ∧ w' = w := by
  have CM := fun w => cMod N w
  rw [decide_eq_true (show 2 ≤ (N : Int) ∧ (N : Int) ≤ 3000000000 by omega)] at CM
  have e1 : wrap64 ((N : Int) - 1) = (N : Int) - 1 := IntWalk.wrap64_in _ (by omega)
  have e2 : IntKind.i64.wrap ((N : Int) - 1) = (N : Int) - 1 := IntWalk.i64_in _ (by omega)
  have CA := fun w => cIn5 A 0 ((N : Int) - 1) w
  rw [decide_eq_true (show 0 ≤ (A : Int) ∧ (A : Int) ≤ (N : Int) - 1 by omega)] at CA
  have CG := fun w => cGcdL A N w (by omega) (by omega)
  rw [HG0.out] at CG
  have HK : Hid (Kept A N A N 1 0) := kept_spec A N (by omega)
  have HI : Hid (restOk A N) := hr
  clear hr
  obtain ⟨I, hI⟩ : ∃ I : Int, invI A N = I := ⟨_, rfl⟩
  have HV : Hid (invI A N = I) := hI
  rw [hI]
  clear hI
  go_enter Tryz.func141, Tryz.ntmps141
  go_wp2_with fail
  refine (CM _).mono ?_
  rintro e w' ⟨rfl, rfl⟩
  go_wp2_with fail
  refine (CA _).mono ?_
  rintro e w' ⟨rfl, rfl⟩
  go_wp2_with fail
  refine (CG _).mono ?_
  rintro e w' ⟨rfl, rfl⟩
  clear CM CA CG e1 e2
  go_wp2_with fail
  go_loop [5, 6, 7, 8] (fun u v x y => ∃ (g r : Nat) (f m : Int), x = .int .i64 (g : Int) ∧ y = .int .i64 (r : Int) ∧ u = .int .i64 f ∧ v = .int .i64 m ∧ g ≤ 3000000000 ∧ r ≤ 3000000000 ∧ Hid (Nat.gcd g r = 1) ∧ Hid (Kept A N g r f m)) (fun _ _ _ y => (intOf y).toNat)
  case atStart => exact ⟨A, N, 1, 0, rfl, rfl, rfl, rfl, by omega, hn3, HG0, HK⟩
  case round =>
    obtain ⟨g, r, f, m, rfl, rfl, rfl, rfl, hg, hr, HG, HK'⟩ := hrel
    by_cases hz : r = 0
    · subst hz
      have := HG.out
      rw [Nat.gcd_zero_right] at this
      subst this
      obtain ⟨⟨hf1, hf2⟩, i1, i2⟩ := kept_end HK'.out HI.out
      rw [HV.out] at i1 i2
      obtain ⟨t1, t2, t3⟩ := tmod_end f N hf1 hf2
      have hne : ¬ (N : Int) = 0 := by omega
      have s1 : wrap64 (f + (N : Int)) = f + (N : Int) := IntWalk.wrap64_in _ (by omega)
      have s2 : IntKind.i64.wrap (f + (N : Int)) = f + (N : Int) := IntWalk.i64_in _ (by omega)
      have s3 : wrap64 f = f := IntWalk.wrap64_in _ (by omega)
      have t4 : (f + (N : Int)).tmod (N : Int) = I := by
        by_cases hneg : f < 0
        · rw [t2 hneg, i1 hneg]
        · rw [t3 hneg, i2 hneg]
      have s4 : wrap64 I = I := by
        have : I = f + N ∨ I = f := by
          by_cases hneg : f < 0
          · exact .inl (i1 hneg)
          · exact .inr (i2 hneg)
        exact IntWalk.wrap64_in _ (by omega)
      have HF : Hid (f % (N : Int) = I) := by
        show f % (N : Int) = I
        by_cases hneg : f < 0
        · rw [i1 hneg, ← Int.add_emod_right, Int.emod_eq_of_lt (by omega) (by omega)]
        · rw [i2 hneg, Int.emod_eq_of_lt (by omega) (by omega)]
      clear i1 i2 t2 t3
      obtain ⟨S, hS⟩ : ∃ S : Int, f + (N : Int) = S := ⟨_, rfl⟩
      rw [hS] at t4
      have s1 : wrap64 (f + (N : Int)) = S := by rw [s1, hS]
      have s2 : IntKind.i64.wrap (f + (N : Int)) = S := by rw [s2, hS]
      clear HG HK' HV HI hS
      go_wp2
      go_ret
      exact ⟨by rw [← HF.out]; rfl, rfl⟩
    · have hne : ¬ (r : Int) = 0 := by omega
      have hpos : decide ((0 : Int) < (r : Int)) = true := by simp; omega
      have HN0 := gcd_step g r
      rw [HG.out] at HN0
      obtain ⟨q, k, P, hqq, hk, hkr, ht, w1, w2, w3, w4, w5⟩ := great_facts2 g r hg hr hz
      have HM : Hid ((g : Int) % (r : Int) = (k : Int)) := by rw [← hk]; exact (Int.natCast_emod g r).symm
      obtain ⟨K1, K2⟩ := HK'.out.step (Nat.pos_of_ne_zero hz)
      rw [hqq, hk] at K1
      rw [hqq] at K2
      obtain ⟨M, Z, hZ, m1, m2, m3, m4⟩ := fac_facts q N f m hn3 K2 K1.2.2.2.2.2
      rw [hZ] at K1
      have HN : Hid (Nat.gcd r k = 1) := by rw [hk] at HN0; exact HN0
      have HK2 : Hid (Kept A N r k m Z) := K1
      clear HG HN0 hk hqq HK' K1 K2 hZ w2 w3 w4 w5
      go_wp2
      go_round
      case rel => exact ⟨r, k, m, Z, rfl, by rw [HM.out], rfl, rfl, hr, by omega, HN, HK2⟩
      case measure => rw [HM.out]; simp [intOf]; omega

set_option maxHeartbeats 4000000 in
theorem cInvS (a n : Int) (w : World) :
    Calls Tryz.prog 141 #[.int .i64 a, .int .i64 n] w fun e w' => e = .returned (.int .i64 (invI a n)) ∧ w' = w := by
  have CM := fun w => cMod n w
  by_cases hm : 2 ≤ n ∧ n ≤ 3000000000
  · rw [decide_eq_true hm] at CM
    have e1 : wrap64 (n - 1) = n - 1 := IntWalk.wrap64_in _ (by omega)
    have e2 : IntKind.i64.wrap (n - 1) = n - 1 := IntWalk.i64_in _ (by omega)
    have CA := fun w => cIn5 a 0 (n - 1) w
    by_cases ha : restOk a n
    · rw [decide_eq_true (show 0 ≤ a ∧ a ≤ n - 1 from ⟨ha.2.1, by have := ha.2.2; omega⟩)] at CA
      have hr := ha
      obtain ⟨_, a1, a2⟩ := ha
      obtain ⟨A, rfl⟩ : ∃ A : Nat, a = A := ⟨a.toNat, by omega⟩
      obtain ⟨N, rfl⟩ : ∃ N : Nat, n = N := ⟨n.toNat, by omega⟩
      have CG := fun w => cGcdL A N w (by omega) (by omega)
      by_cases hg : Nat.gcd A N = 1
      · exact cInvSL A N w hr hg (by omega) (by omega) (by omega)
      · rw [invI_gcd (by simpa using hg)]
        have hd : (((Nat.gcd A N : Nat) : Int) != 1) = true := by simp; omega
        generalize Nat.gcd A N = R at *
        go_enter Tryz.func141, Tryz.ntmps141
        go_wp2_with fail
        refine (CM _).mono ?_
        rintro e w' ⟨rfl, rfl⟩
        go_wp2_with fail
        refine (CA _).mono ?_
        rintro e w' ⟨rfl, rfl⟩
        go_wp2_with fail
        refine (CG _).mono ?_
        rintro e w' ⟨rfl, rfl⟩
        go_wp2_with fail
        go_ret
        exact ⟨rfl, rfl⟩
    · rw [decide_eq_false (show ¬ (0 ≤ a ∧ a ≤ n - 1) from fun x => ha ⟨hm, x.1, by omega⟩)] at CA
      rw [invI_range ha]
      clear ha
      go_enter Tryz.func141, Tryz.ntmps141
      go_wp2_with fail
      refine (CM _).mono ?_
      rintro e w' ⟨rfl, rfl⟩
      go_wp2_with fail
      refine (CA _).mono ?_
      rintro e w' ⟨rfl, rfl⟩
      go_wp2_with fail
      go_ret
      exact ⟨rfl, rfl⟩
  · rw [decide_eq_false hm] at CM
    rw [invI_range (fun x => hm x.1)]
    go_enter Tryz.func141, Tryz.ntmps141
    go_wp2_with fail
    refine (CM _).mono ?_
    rintro e w' ⟨rfl, rfl⟩
    go_wp2_with fail
    go_ret
    exact ⟨rfl, rfl⟩

end Go.Proofs.YtgdfeicojgnoaaaGreatDoor
