/- Contracts of Prime, of the program and of the specification: true just where no number whose square is not above n goes into n. -/
import Derived.Test.YtfglgadmcgkjkaaRows
import Derived.WalkKit
namespace Go.Proofs.Ytfglgadmcgkjkaa
open Go.RowKit
set_option linter.unusedVariables false
set_option linter.unusedSimpArgs false

/-- From 2 to 65535, and none from 2 on goes into it whose square is not above it. -/
def isPr (n : Int) : Prop := (2 ≤ n ∧ n ≤ 65535) ∧ ∀ k : Nat, 2 ≤ k → k * k ≤ n.toNat → ¬ n.toNat % k = 0

theorem sq_wrap (k P : Nat) (hk : k ≤ 256) (h : k * k = P) : IntKind.i64.wrap ((k : Int) * (k : Int)) = (P : Int) ∧ wrap64 ((k : Int) * (k : Int)) = (P : Int) := by
  have h1 : k * k ≤ 256 * 256 := Nat.mul_le_mul hk hk
  have e : (k : Int) * (k : Int) = (P : Int) := by rw [← h]; simp
  rw [e]
  exact ⟨IntWalk.i64_in _ (by omega), IntWalk.wrap64_in _ (by omega)⟩

theorem rem_nat (m k : Nat) : (m : Int).tmod (k : Int) = ((m % k : Nat) : Int) := (Int.ofNat_tmod m k).symm

theorem sq_next (k m : Nat) (h : k * k ≤ m) (hm : m ≤ 65535) : k ≤ 255 := by
  rcases Nat.lt_or_ge k 256 with h' | h'
  · omega
  · have := Nat.mul_le_mul h' h'
    omega

theorem no_pr {B : Bool} {n : Int} (hB : B = true ↔ isPr n) (h : ¬ isPr n) : B = false := by
  cases B
  · rfl
  · exact absurd (hB.1 rfl) h

theorem pr_end (k m P : Nat) (hm2 : 2 ≤ m) (hm : m ≤ 65535) (hP : k * k = P) (hle : ¬ P ≤ m) (hj : ∀ j : Nat, 2 ≤ j → j < k → ¬ m % j = 0) : isPr (m : Int) := by
  refine ⟨by omega, fun j a b => ?_⟩
  have hlt : j < k := by
    rcases Nat.lt_or_ge j k with h' | h'
    · exact h'
    · have := Nat.mul_le_mul h' h'
      rw [hP] at this
      simp at b
      omega
  exact hj j a hlt

theorem cInP (x lo hi : Int) (w : World) :
    Calls Try.prog 41 #[.int .i64 x, .int .i64 lo, .int .i64 hi] w fun e w' => e = .returned (.bool (decide (lo ≤ x ∧ x ≤ hi))) ∧ w' = w := by
  go_enter Try.func41, Try.ntmps41
  go_wp2
  all_goals go_ret
  all_goals exact ⟨by congr 2; simp; try omega, rfl⟩

set_option maxHeartbeats 1000000 in
theorem cPrimeI (n : Int) (B : Bool) (hB : B = true ↔ isPr n) (w : World) :
    Calls Try.prog 50 #[.int .i64 n] w fun e w' => e = .returned (.bool B) ∧ w' = w := by
  have HB : Hid (B = true ↔ isPr n) := hB
  clear hB
  by_cases h1 : n < 2
  · go_enter Try.func50, Try.ntmps50
    go_wp2
    go_ret
    exact ⟨by rw [no_pr HB.out (fun h => by have := h.1; omega)]; rfl, rfl⟩
  · by_cases h2 : n > 65535
    · go_enter Try.func50, Try.ntmps50
      go_wp2
      go_ret
      exact ⟨by rw [no_pr HB.out (fun h => by have := h.1; omega)]; rfl, rfl⟩
    · obtain ⟨m, rfl⟩ : ∃ m : Nat, n = m := ⟨n.toNat, by omega⟩
      have hm : m ≤ 65535 := by omega
      have hm2 : 2 ≤ m := by omega
      go_enter Try.func50, Try.ntmps50
      go_wp2
      go_loop [3] (fun d => ∃ k : Nat, d = .int .i64 k ∧ 2 ≤ k ∧ k ≤ 256 ∧ ∀ j : Nat, 2 ≤ j → j < k → ¬ m % j = 0) (fun d => 256 - (intOf d).toNat)
      case atStart => exact ⟨2, rfl, Nat.le_refl _, by decide, fun j h h' => by omega⟩
      case round =>
        obtain ⟨k, rfl, hk2, hk, hj⟩ := hrel
        have HJ : Hid (∀ j : Nat, 2 ≤ j → j < k → ¬ m % j = 0) := hj
        clear hj
        obtain ⟨P, hP⟩ : ∃ P : Nat, k * k = P := ⟨_, rfl⟩
        obtain ⟨e1, e2⟩ := sq_wrap k P hk hP
        have hz : ¬ (k : Int) = 0 := by omega
        have er := rem_nat m k
        obtain ⟨R, hR⟩ : ∃ R : Nat, m % k = R := ⟨_, rfl⟩
        rw [hR] at er
        have HR : Hid (m % k = R) := hR
        have HP : Hid (k * k = P) := hP
        clear hR hP
        by_cases hle : P ≤ m
        · have hd : decide ((P : Int) ≤ (m : Int)) = true := by simp; omega
          have hk255 : k ≤ 255 := sq_next k m (by rw [HP.out]; exact hle) hm
          by_cases h0 : R = 0
          · have hq : ((R : Int) == 0) = true := by simp; omega
            go_wp2
            go_ret
            exact ⟨by rw [no_pr HB.out (fun h => absurd (HR.out.trans h0) (h.2 k hk2 (by rw [HP.out]; exact hle)))]; rfl, rfl⟩
          · have hq : ((R : Int) == 0) = false := by simp; omega
            go_wp2
            go_round
            case rel =>
              refine ⟨k + 1, by go_num, by omega, by omega, fun j a b => ?_⟩
              rcases Nat.lt_or_ge j k with h' | h'
              · exact HJ.out j a h'
              · have : j = k := by omega
                subst this
                rw [HR.out]
                exact h0
            case measure => simp [intOf]; omega
        · have hd : decide ((P : Int) ≤ (m : Int)) = false := by simp; omega
          go_wp2
          go_ret
          exact ⟨by rw [HB.out.2 (pr_end k m P hm2 hm HP.out hle HJ.out)]; rfl, rfl⟩

set_option maxHeartbeats 1000000 in
theorem cPrimeS (n : Int) (B : Bool) (hB : B = true ↔ isPr n) (w : World) :
    Calls Try.prog 40 #[.int .i64 n] w fun e w' => e = .returned (.bool B) ∧ w' = w := by
  have HB : Hid (B = true ↔ isPr n) := hB
  clear hB
  have C := fun w => cInP n 2 65535 w
  by_cases h : 2 ≤ n ∧ n ≤ 65535
  · rw [decide_eq_true h] at C
    obtain ⟨m, rfl⟩ : ∃ m : Nat, n = m := ⟨n.toNat, by omega⟩
    have hm : m ≤ 65535 := by omega
    have hm2 : 2 ≤ m := by omega
    clear h
    go_enter Try.func40, Try.ntmps40
    go_wp2_with fail
    refine (C _).mono ?_
    rintro e w' ⟨rfl, rfl⟩
    go_wp2
    go_loop [3] (fun d => ∃ k : Nat, d = .int .i64 k ∧ 2 ≤ k ∧ k ≤ 256 ∧ ∀ j : Nat, 2 ≤ j → j < k → ¬ m % j = 0) (fun d => 256 - (intOf d).toNat)
    case atStart => exact ⟨2, rfl, Nat.le_refl _, by decide, fun j h h' => by omega⟩
    case round =>
      obtain ⟨k, rfl, hk2, hk, hj⟩ := hrel
      have HJ : Hid (∀ j : Nat, 2 ≤ j → j < k → ¬ m % j = 0) := hj
      clear hj
      obtain ⟨P, hP⟩ : ∃ P : Nat, k * k = P := ⟨_, rfl⟩
      obtain ⟨e1, e2⟩ := sq_wrap k P hk hP
      have hz : ¬ (k : Int) = 0 := by omega
      have er := rem_nat m k
      obtain ⟨R, hR⟩ : ∃ R : Nat, m % k = R := ⟨_, rfl⟩
      rw [hR] at er
      have HR : Hid (m % k = R) := hR
      have HP : Hid (k * k = P) := hP
      clear hR hP
      by_cases hle : P ≤ m
      · have hd : decide ((P : Int) ≤ (m : Int)) = true := by simp; omega
        have hk255 : k ≤ 255 := sq_next k m (by rw [HP.out]; exact hle) hm
        by_cases h0 : R = 0
        · have hq : ((R : Int) == 0) = true := by simp; omega
          go_wp2
          go_ret
          exact ⟨by rw [no_pr HB.out (fun h => absurd (HR.out.trans h0) (h.2 k hk2 (by rw [HP.out]; exact hle)))]; rfl, rfl⟩
        · have hq : ((R : Int) == 0) = false := by simp; omega
          go_wp2
          go_round
          case rel =>
            refine ⟨k + 1, by go_num, by omega, by omega, fun j a b => ?_⟩
            rcases Nat.lt_or_ge j k with h' | h'
            · exact HJ.out j a h'
            · have : j = k := by omega
              subst this
              rw [HR.out]
              exact h0
          case measure => simp [intOf]; omega
      · have hd : decide ((P : Int) ≤ (m : Int)) = false := by simp; omega
        go_wp2
        go_ret
        exact ⟨by rw [HB.out.2 (pr_end k m P hm2 hm HP.out hle HJ.out)]; rfl, rfl⟩
  · rw [decide_eq_false h] at C
    go_enter Try.func40, Try.ntmps40
    go_wp2_with fail
    refine (C _).mono ?_
    rintro e w' ⟨rfl, rfl⟩
    go_wp2
    go_ret
    exact ⟨by rw [no_pr HB.out (fun h' => h h'.1)]; rfl, rfl⟩

end Go.Proofs.Ytfglgadmcgkjkaa
