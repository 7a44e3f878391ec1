/-  -/
import Derived.Test.YtoioiddjbanahaaGreatDoorM28
import Derived.Test.YtoioiddjbanahaaGreatDoorRows
import Derived.Test.YtoioiddjbanahaaGreatDoorM24
import Derived.WalkKit
set_option linter.unusedVariables false
set_option linter.unusedSimpArgs false
namespace Go.Proofs.YtoioiddjbanahaaGreatDoor

open Go.RowKit

end Go.Proofs.YtoioiddjbanahaaGreatDoor

namespace Go.Proofs.YtoioiddjbanahaaGreatDoor

open Go.RowKit

set_option maxHeartbeats 4000000 in
theorem cInvSL (A N : Nat) (w : World) (hr : restOk A N) (HG0 : Hid (Nat.gcd A N = 1)) (a2 : A < N) (hn2 : 2 <= N) (hn3 : N <= 3000000000) :
  Calls Tryz.prog 178 #[.int .i64 A, .int .i64 N] w fun e w' => e = .returned (.int .i64 (invI A N)) /\ w' = w := by
 have CM := fun w => cMod N w
 rw [decide_eq_true (show 2 <= (N : Int) /\ (N : Int) <= 3000000000 by omega)] at CM
 have e1 : wrap64 ((N : Int) - 1) = (N : Int) - 1 := IntWalk.wrap64_in _ (by omega)
 have e2 : IntKind.i64.wrap ((N : Int) - 1) = (N : Int) - 1 := IntWalk.i64_in _ (by omega)
 have CA := fun w => cIn5 A 0 ((N : Int) - 1) w
 rw [decide_eq_true (show 0 <= (A : Int) /\ (A : Int) <= (N : Int) - 1 by omega)] at CA
 have CG := fun w => cGcdL A N w (by omega) (by omega)
 rw [HG0.out] at CG
 have HK : Hid (Kept A N A N 1 0) := kept_spec A N (by omega)
 have HI : Hid (restOk A N) := hr
 clear hr
 obtain ⟨I, hI⟩ : ∃ I : Int, invI A N = I := ⟨_, rfl⟩
 have HV : Hid (invI A N = I) := hI
 rw [hI]
 clear hI
 go_enter Tryz.func178, Tryz.ntmps178
 go_wp2_with fail
 refine (CM _).mono ?_
 rintro e w' ⟨rfl, rfl⟩
 go_wp2_with fail
 refine (CA _).mono ?_
 rintro e w' ⟨rfl, rfl⟩
 go_wp2_with fail
 refine (CG _).mono ?_
 rintro e w' ⟨rfl, rfl⟩
 clear CM CA CG e1 e2
 go_wp2_with fail
 go_loop [5, 6, 7, 8] (fun u v x y => ∃ (g r : Nat) (f m : Int), x = .int .i64 (g : Int) /\ y = .int .i64 (r : Int) /\ u = .int .i64 f /\ v = .int .i64 m /\ g <= 3000000000 /\ r <= 3000000000 /\ Hid (Nat.gcd g r = 1) /\ Hid (Kept A N g r f m)) (fun _ _ _ y => (intOf y).toNat)
 case atStart => exact ⟨A, N, 1, 0, rfl, rfl, rfl, rfl, by omega, hn3, HG0, HK⟩
 case round =>
  obtain ⟨g, r, f, m, rfl, rfl, rfl, rfl, hg, hr, HG, HK'⟩ := hrel
  by_cases hz : r = 0
  ·subst hz
   have := HG.out
   rw [Nat.gcd_zero_right] at this
   subst this
   obtain ⟨⟨hf1, hf2⟩, i1, i2⟩ := kept_end HK'.out HI.out
   rw [HV.out] at i1 i2
   obtain ⟨t1, t2, t3⟩ := tmod_end f N hf1 hf2
   have hne : ¬ (N : Int) = 0 := by omega
   have s1 : wrap64 (f + (N : Int)) = f + (N : Int) := IntWalk.wrap64_in _ (by omega)
   have s2 : IntKind.i64.wrap (f + (N : Int)) = f + (N : Int) := IntWalk.i64_in _ (by omega)
   have s3 : wrap64 f = f := IntWalk.wrap64_in _ (by omega)
   have t4 : (f + (N : Int)).tmod (N : Int) = I := by
    by_cases hneg : f < 0
    ·rw [t2 hneg, i1 hneg]
    ·rw [t3 hneg, i2 hneg]
   have s4 : wrap64 I = I := by
    have : I = f + N \/ I = f := by
     by_cases hneg : f < 0
     ·exact .inl (i1 hneg)
     ·exact .inr (i2 hneg)
    exact IntWalk.wrap64_in _ (by omega)
   have HF : Hid (f % (N : Int) = I) := by
    show f % (N : Int) = I
    by_cases hneg : f < 0
    ·rw [i1 hneg, <- Int.add_emod_right, Int.emod_eq_of_lt (by omega) (by omega)]
    ·rw [i2 hneg, Int.emod_eq_of_lt (by omega) (by omega)]
   clear i1 i2 t2 t3
   obtain ⟨S, hS⟩ : ∃ S : Int, f + (N : Int) = S := ⟨_, rfl⟩
   rw [hS] at t4
   have s1 : wrap64 (f + (N : Int)) = S := by rw [s1, hS]
   have s2 : IntKind.i64.wrap (f + (N : Int)) = S := by rw [s2, hS]
   clear HG HK' HV HI hS
   go_wp2
   go_ret
   exact ⟨by rw [<- HF.out]; rfl, rfl⟩
  ·have hne : ¬ (r : Int) = 0 := by omega
   have hpos : decide ((0 : Int) < (r : Int)) = true := by simp; omega
   have HN0 := gcd_step g r
   rw [HG.out] at HN0
   obtain ⟨q, k, P, hqq, hk, hkr, ht, w1, w2, w3, w4, w5⟩ := great_facts2 g r hg hr hz
   have HM : Hid ((g : Int) % (r : Int) = (k : Int)) := by rw [<- hk]; exact (Int.natCast_emod g r).symm
   obtain ⟨K1, K2⟩ := HK'.out.step (Nat.pos_of_ne_zero hz)
   rw [hqq, hk] at K1
   rw [hqq] at K2
   obtain ⟨M, Z, hZ, m1, m2, m3, m4⟩ := fac_facts q N f m hn3 K2 K1.2.2.2.2.2
   rw [hZ] at K1
   have HN : Hid (Nat.gcd r k = 1) := by rw [hk] at HN0; exact HN0
   have HK2 : Hid (Kept A N r k m Z) := K1
   clear HG HN0 hk hqq HK' K1 K2 hZ w2 w3 w4 w5
   go_wp2
   go_round
   case rel => exact ⟨r, k, m, Z, rfl, by rw [HM.out], rfl, rfl, hr, by omega, HN, HK2⟩
   case measure => rw [HM.out]; simp [intOf]; omega

set_option maxHeartbeats 4000000 in
theorem cInvS (a n : Int) (w : World) :
  Calls Tryz.prog 178 #[.int .i64 a, .int .i64 n] w fun e w' => e = .returned (.int .i64 (invI a n)) /\ w' = w := by
 have CM := fun w => cMod n w
 by_cases hm : 2 <= n /\ n <= 3000000000
 ·rw [decide_eq_true hm] at CM
  have e1 : wrap64 (n - 1) = n - 1 := IntWalk.wrap64_in _ (by omega)
  have e2 : IntKind.i64.wrap (n - 1) = n - 1 := IntWalk.i64_in _ (by omega)
  have CA := fun w => cIn5 a 0 (n - 1) w
  by_cases ha : restOk a n
  ·rw [decide_eq_true (show 0 <= a /\ a <= n - 1 from ⟨ha.2.1, by have := ha.2.2; omega⟩)] at CA
   have hr := ha
   obtain ⟨_, a1, a2⟩ := ha
   obtain ⟨A, rfl⟩ : ∃ A : Nat, a = A := ⟨a.toNat, by omega⟩
   obtain ⟨N, rfl⟩ : ∃ N : Nat, n = N := ⟨n.toNat, by omega⟩
   have CG := fun w => cGcdL A N w (by omega) (by omega)
   by_cases hg : Nat.gcd A N = 1
   ·exact cInvSL A N w hr hg (by omega) (by omega) (by omega)
   ·rw [invI_gcd (by simpa using hg)]
    have hd : (((Nat.gcd A N : Nat) : Int) != 1) = true := by simp; omega
    generalize Nat.gcd A N = R at *
    go_enter Tryz.func178, Tryz.ntmps178
    go_wp2_with fail
    refine (CM _).mono ?_
    rintro e w' ⟨rfl, rfl⟩
    go_wp2_with fail
    refine (CA _).mono ?_
    rintro e w' ⟨rfl, rfl⟩
    go_wp2_with fail
    refine (CG _).mono ?_
    rintro e w' ⟨rfl, rfl⟩
    go_wp2_with fail
    go_ret
    exact ⟨rfl, rfl⟩
  ·rw [decide_eq_false (show ¬ (0 <= a /\ a <= n - 1) from fun x => ha ⟨hm, x.1, by omega⟩)] at CA
   rw [invI_range ha]
   clear ha
   go_enter Tryz.func178, Tryz.ntmps178
   go_wp2_with fail
   refine (CM _).mono ?_
   rintro e w' ⟨rfl, rfl⟩
   go_wp2_with fail
   refine (CA _).mono ?_
   rintro e w' ⟨rfl, rfl⟩
   go_wp2_with fail
   go_ret
   exact ⟨rfl, rfl⟩
 ·rw [decide_eq_false hm] at CM
  rw [invI_range (fun x => hm x.1)]
  go_enter Tryz.func178, Tryz.ntmps178
  go_wp2_with fail
  refine (CM _).mono ?_
  rintro e w' ⟨rfl, rfl⟩
  go_wp2_with fail
  go_ret
  exact ⟨rfl, rfl⟩

end Go.Proofs.YtoioiddjbanahaaGreatDoor

namespace Go.Proofs.YtoioiddjbanahaaGreatDoor

open Go.RowKit

def isPr (n : Int) : Prop := (2 <= n /\ n <= 65535) /\ ∀ k : Nat, 2 <= k -> k * k <= n.toNat -> ¬ n.toNat % k = 0

theorem sq_wrap (k P : Nat) (hk : k <= 256) (h : k * k = P) : IntKind.i64.wrap ((k : Int) * (k : Int)) = (P : Int) /\ wrap64 ((k : Int) * (k : Int)) = (P : Int) := by
 have h1 : k * k <= 256 * 256 := Nat.mul_le_mul hk hk
 have e : (k : Int) * (k : Int) = (P : Int) := by rw [<- h]; simp
 rw [e]
 exact ⟨IntWalk.i64_in _ (by omega), IntWalk.wrap64_in _ (by omega)⟩

theorem rem_nat (m k : Nat) : (m : Int).tmod (k : Int) = ((m % k : Nat) : Int) := (Int.ofNat_tmod m k).symm

theorem sq_next (k m : Nat) (h : k * k <= m) (hm : m <= 65535) : k <= 255 := by
 rcases Nat.lt_or_ge k 256 with h' | h'
 ·omega
 ·have := Nat.mul_le_mul h' h'
  omega

theorem no_pr {B : Bool} {n : Int} (hB : B = true ↔ isPr n) (h : ¬ isPr n) : B = false := by
 cases B
 ·rfl
 ·exact absurd (hB.1 rfl) h

theorem pr_end (k m P : Nat) (hm2 : 2 <= m) (hm : m <= 65535) (hP : k * k = P) (hle : ¬ P <= m) (hj : ∀ j : Nat, 2 <= j -> j < k -> ¬ m % j = 0) : isPr (m : Int) := by
 refine ⟨by omega, fun j a b => ?_⟩
 have hlt : j < k := by
  rcases Nat.lt_or_ge j k with h' | h'
  ·exact h'
  ·have := Nat.mul_le_mul h' h'
   rw [hP] at this
   simp at b
   omega
 exact hj j a hlt

theorem cInP (x lo hi : Int) (w : World) :
  Calls Tryz.prog 39 #[.int .i64 x, .int .i64 lo, .int .i64 hi] w fun e w' => e = .returned (.bool (decide (lo <= x /\ x <= hi))) /\ w' = w := by
 go_enter Tryz.func39, Tryz.ntmps39
 go_wp2
 all_goals go_ret
 all_goals exact ⟨by congr 2; simp; try omega, rfl⟩

set_option maxHeartbeats 1000000 in
theorem cPrimeS (n : Int) (B : Bool) (hB : B = true ↔ isPr n) (w : World) :
  Calls Tryz.prog 177 #[.int .i64 n] w fun e w' => e = .returned (.bool B) /\ w' = w := by
 have HB : Hid (B = true ↔ isPr n) := hB
 clear hB
 have C := fun w => cInP n 2 65535 w
 by_cases h : 2 <= n /\ n <= 65535
 ·rw [decide_eq_true h] at C
  obtain ⟨m, rfl⟩ : ∃ m : Nat, n = m := ⟨n.toNat, by omega⟩
  have hm : m <= 65535 := by omega
  have hm2 : 2 <= m := by omega
  clear h
  go_enter Tryz.func177, Tryz.ntmps177
  go_wp2_with fail
  refine (C _).mono ?_
  rintro e w' ⟨rfl, rfl⟩
  go_wp2
  go_loop [3] (fun d => ∃ k : Nat, d = .int .i64 k /\ 2 <= k /\ k <= 256 /\ ∀ j : Nat, 2 <= j -> j < k -> ¬ m % j = 0) (fun d => 256 - (intOf d).toNat)
  case atStart => exact ⟨2, rfl, Nat.le_refl _, by decide, fun j h h' => by omega⟩
  case round =>
   obtain ⟨k, rfl, hk2, hk, hj⟩ := hrel
   have HJ : Hid (∀ j : Nat, 2 <= j -> j < k -> ¬ m % j = 0) := hj
   clear hj
   obtain ⟨P, hP⟩ : ∃ P : Nat, k * k = P := ⟨_, rfl⟩
   obtain ⟨e1, e2⟩ := sq_wrap k P hk hP
   have hz : ¬ (k : Int) = 0 := by omega
   have er := rem_nat m k
   obtain ⟨R, hR⟩ : ∃ R : Nat, m % k = R := ⟨_, rfl⟩
   rw [hR] at er
   have HR : Hid (m % k = R) := hR
   have HP : Hid (k * k = P) := hP
   clear hR hP
   by_cases hle : P <= m
   ·have hd : decide ((P : Int) <= (m : Int)) = true := by simp; omega
    have hk255 : k <= 255 := sq_next k m (by rw [HP.out]; exact hle) hm
    by_cases h0 : R = 0
    ·have hq : ((R : Int) == 0) = true := by simp; omega
     go_wp2
     go_ret
     exact ⟨by rw [no_pr HB.out (fun h => absurd (HR.out.trans h0) (h.2 k hk2 (by rw [HP.out]; exact hle)))]; rfl, rfl⟩
    ·have hq : ((R : Int) == 0) = false := by simp; omega
     go_wp2
     go_round
     case rel =>
      refine ⟨k + 1, by go_num, by omega, by omega, fun j a b => ?_⟩
      rcases Nat.lt_or_ge j k with h' | h'
      ·exact HJ.out j a h'
      ·have : j = k := by omega
       subst this
       rw [HR.out]
       exact h0
     case measure => simp [intOf]; omega
   ·have hd : decide ((P : Int) <= (m : Int)) = false := by simp; omega
    go_wp2
    go_ret
    exact ⟨by rw [HB.out.2 (pr_end k m P hm2 hm HP.out hle HJ.out)]; rfl, rfl⟩
 ·rw [decide_eq_false h] at C
  go_enter Tryz.func177, Tryz.ntmps177
  go_wp2_with fail
  refine (C _).mono ?_
  rintro e w' ⟨rfl, rfl⟩
  go_wp2
  go_ret
  exact ⟨by rw [no_pr HB.out (fun h' => h h'.1)]; rfl, rfl⟩

end Go.Proofs.YtoioiddjbanahaaGreatDoor

namespace Go.Proofs.YtoioiddjbanahaaGreatDoor

open Go.RowKit

def kfP (p q e : Int) : Prop :=
 ((¬ p = q /\ isPr p) /\ isPr q) /\ (3 <= e /\ e <= 65537 /\ e % 2 = 1) /\ (2147483648 <= p * q /\ p * q <= 3000000000) /\ 3 <= invI e ((p - 1) * (q - 1))

noncomputable def kfB (p q e : Int) : Bool := open Classical in decide (kfP p q e)

noncomputable def kfN (p q e : Int) : Int := open Classical in if kfP p q e then p * q else 0

noncomputable def kfE (p q e : Int) : Int := open Classical in if kfP p q e then e else 0

noncomputable def kfD (p q e : Int) : Int := open Classical in if kfP p q e then invI e ((p - 1) * (q - 1)) else 0

theorem kf_yes {p q e : Int} (h : kfP p q e) : kfB p q e = true /\ kfN p q e = p * q /\ kfE p q e = e /\ kfD p q e = invI e ((p - 1) * (q - 1)) := by
 unfold kfB kfN kfE kfD
 simp [h]

theorem kf_no {p q e : Int} (h : ¬ kfP p q e) : kfB p q e = false /\ kfN p q e = 0 /\ kfE p q e = 0 /\ kfD p q e = 0 := by
 unfold kfB kfN kfE kfD
 simp [h]

theorem prod_in {p q : Int} (hp : 2 <= p /\ p <= 65535) (hq : 2 <= q /\ q <= 65535) : 0 <= p * q /\ p * q <= 4294836225 := by
 constructor
 ·exact Int.mul_nonneg (by omega) (by omega)
 ·have := Int.mul_le_mul hp.2 hq.2 (by omega) (by omega)
  omega

theorem phi_is (p q : Int) : (p - 1) * (q - 1) = p * q - p - q + 1 := by
 rw [Int.sub_mul, Int.mul_sub]
 omega

theorem invI_lt {a n : Int} : invI a n = 0 \/ invI a n < n := by
 by_cases h : invI a n = 0
 ·exact .inl h
 ·exact .inr (invI_is h).2.2.1

theorem invI_ge (a n : Int) : 0 <= invI a n := by
 by_cases h : invI a n = 0
 ·omega
 ·have := (invI_is h).2.1
  omega

end Go.Proofs.YtoioiddjbanahaaGreatDoor
