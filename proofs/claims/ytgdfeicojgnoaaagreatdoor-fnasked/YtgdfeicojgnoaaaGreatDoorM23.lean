/- Plain mathematics of powers modulo n: squaring and halving keeps the product of what is gathered and what is left. Contracts of Power, of the program and of the specification: one answer. Contracts of the program's keys: Public, KeyOk, Locked, Opened. -/
import Derived.Test.YtgdfeicojgnoaaaGreatDoorM22
import Derived.IntWalk
namespace Go.Proofs.YtgdfeicojgnoaaaGreatDoor

def powOf (a e n : Nat) : Nat := a ^ e % n

theorem powOf_lt (a e n : Nat) (hn : 0 < n) : powOf a e n < n := Nat.mod_lt _ hn

theorem pow_sq (a k n : Nat) : (a * a % n) ^ k % n = a ^ (2 * k) % n := by
  rw [← Nat.pow_mod, ← Nat.pow_two, ← Nat.pow_mul]

/-- An even exponent. -/
theorem pow_even (p a e n : Nat) (he : e % 2 = 0) : p * (a * a % n) ^ (e / 2) % n = p * a ^ e % n := by
  rw [Nat.mul_mod, pow_sq, ← Nat.mul_mod]
  have : 2 * (e / 2) = e := by omega
  rw [this]

/-- An odd one. -/
theorem pow_odd (p a e n : Nat) (he : e % 2 = 1) : (p * a % n) * (a * a % n) ^ (e / 2) % n = p * a ^ e % n := by
  rw [Nat.mul_mod, pow_sq, Nat.mod_mod, ← Nat.mul_mod]
  have h : e = 2 * (e / 2) + 1 := by omega
  have h2 : a ^ e = a ^ (2 * (e / 2)) * a := by
    conv => lhs; rw [h, Nat.pow_succ]
  rw [h2, Nat.mul_assoc, Nat.mul_comm a (a ^ (2 * (e / 2)))]

theorem powOf_add (a e k n : Nat) : powOf a (e + k) n = (powOf a e n * powOf a k n) % n := by
  unfold powOf
  rw [Nat.pow_add, Nat.mul_mod]

theorem powOf_zero (a n : Nat) (hn : 2 ≤ n) : powOf a 0 n = 1 := by
  unfold powOf
  rw [Nat.pow_zero]
  exact Nat.mod_eq_of_lt (by omega)

theorem powOf_one (a n : Nat) (hn : a < n) : powOf a 1 n = a := by
  unfold powOf
  rw [Nat.pow_one]
  exact Nat.mod_eq_of_lt hn

theorem half_tdiv (e : Nat) : (e : Int).tdiv 2 = ((e / 2 : Nat) : Int) := (Int.ofNat_tdiv e 2).symm

theorem half_tmod (e : Nat) : (e : Int).tmod 2 = ((e % 2 : Nat) : Int) := (Int.ofNat_tmod e 2).symm

end Go.Proofs.YtgdfeicojgnoaaaGreatDoor

namespace Go.Proofs.YtgdfeicojgnoaaaGreatDoor
open Go.RowKit
set_option linter.unusedVariables false
set_option linter.unusedSimpArgs false

theorem step_even (p a e n R : Nat) (he : e % 2 = 0) (hR : p * a ^ e % n = R) : p * (timesOf a a n) ^ (e / 2) % n = R := by
  unfold timesOf
  rw [pow_even p a e n he]
  exact hR

theorem step_odd (p a e n R : Nat) (he : e % 2 = 1) (hR : p * a ^ e % n = R) : timesOf p a n * (timesOf a a n) ^ (e / 2) % n = R := by
  unfold timesOf
  rw [pow_odd p a e n he]
  exact hR

theorem step_end (p a n R : Nat) (hp : p < n) (hR : p * a ^ 0 % n = R) : p = R := by
  rw [Nat.pow_zero, Nat.mul_one, Nat.mod_eq_of_lt hp] at hR
  exact hR

theorem step_start (a e n : Nat) : 1 * a ^ e % n = powOf a e n := by
  unfold powOf
  rw [Nat.one_mul]

/-- What Power answers. -/
noncomputable def powI (a e n : Int) : Int := open Classical in if restOk a n ∧ 0 ≤ e then (powOf a.toNat e.toNat n.toNat : Nat) else -1

theorem powI_ok {a e n : Int} (h : restOk a n) (k : 0 ≤ e) : powI a e n = (powOf a.toNat e.toNat n.toNat : Nat) := by
  unfold powI
  rw [if_pos ⟨h, k⟩]

theorem powI_no1 {a e n : Int} (h : ¬ restOk a n) : powI a e n = -1 := by
  unfold powI
  rw [if_neg (fun x => h x.1)]

theorem powI_no2 {a e n : Int} (h : ¬ 0 ≤ e) : powI a e n = -1 := by
  unfold powI
  rw [if_neg (fun x => h x.2)]

end Go.Proofs.YtgdfeicojgnoaaaGreatDoor

namespace Go.Proofs.YtgdfeicojgnoaaaGreatDoor
open Go.RowKit
set_option linter.unusedVariables false
set_option linter.unusedSimpArgs false

set_option maxHeartbeats 1000000 in
theorem cLocks (m o d : Int) (w : World) :
    Calls Tryz.prog 138 #[.agg #[.int .i64 m, .int .i64 o, .int .i64 d]] w fun e w' => e = .returned (.bool (lkB m o d)) ∧ Below w.heap.size w w' := by
  have CO := fun w => cOpens m o w
  by_cases h : opB m o = true
  · have CP := fun w => cPowerOk m o d w
    obtain ⟨B, hB⟩ : ∃ B, pwB m d = B := ⟨_, rfl⟩
    have hq : lkB m o d = B := by
      have h' : (2147483648 ≤ m ∧ m ≤ 3000000000) ∧ 3 ≤ o ∧ o < m := of_decide_eq_true h
      rw [← hB]; unfold lkB pwB; simp [h']
    rw [hq]
    rw [hB] at CP
    rw [h] at CO
    clear hq hB h
    go_enter Tryz.func138, Tryz.ntmps138
    go_wp2_with fail
    refine (CO _).mono ?_
    rintro e w1 ⟨rfl, hb⟩
    obtain ⟨hc, hf⟩ := k_bcell hb
    have HB : Hid (Below w.heap.size w w1) := ((Below.refl _ _).alloc (Nat.le_refl _) _).trans (hb.mono (by simp))
    go_wp2_with (go_at_call 156; refine (CP _).mono ?_; rintro e w2 ⟨rfl, hb2⟩)
    go_ret
    exact ⟨rfl, HB.out.trans (hb2.mono HB.out.size)⟩
  · have h : opB m o = false := by simpa using h
    have hq : lkB m o d = false := by
      have h' : ¬ ((2147483648 ≤ m ∧ m ≤ 3000000000) ∧ 3 ≤ o ∧ o < m) := of_decide_eq_false h
      unfold lkB; exact dec_f (fun x => h' x.1)
    rw [hq]
    rw [h] at CO
    clear hq h
    go_enter Tryz.func138, Tryz.ntmps138
    go_wp2_with (go_at_call 139; refine (CO _).mono ?_; rintro e w1 ⟨rfl, hb⟩)
    go_ret
    exact ⟨rfl, ((Below.refl _ _).alloc (Nat.le_refl _) _).trans (hb.mono (by simp))⟩

set_option maxHeartbeats 1000000 in
theorem cOk (m o d : Int) (w : World) :
    Calls Tryz.prog 119 #[.agg #[.int .i64 m, .int .i64 o, .int .i64 d]] w fun e w' => e = .returned (.bool (okB m o d)) ∧ Below w.heap.size w w' := by
  have CL := fun w => cLocks m o d w
  by_cases h : lkB m o d = true
  · have hq : okB m o d = true := by
      have h' : ((2147483648 ≤ m ∧ m ≤ 3000000000) ∧ 3 ≤ o ∧ o < m) ∧ 3 ≤ d ∧ d < m := of_decide_eq_true h
      exact dec_t ⟨h'.1, .inr h'.2⟩
    rw [hq]
    rw [h] at CL
    clear hq h
    go_enter Tryz.func119, Tryz.ntmps119
    go_wp2_with (go_at_call 138; refine (CL _).mono ?_; rintro e w1 ⟨rfl, hb⟩)
    go_ret
    exact ⟨rfl, ((Below.refl _ _).alloc (Nat.le_refl _) _).trans (hb.mono (by simp))⟩
  · have h : lkB m o d = false := by simpa using h
    have h' : ¬ (((2147483648 ≤ m ∧ m ≤ 3000000000) ∧ 3 ≤ o ∧ o < m) ∧ 3 ≤ d ∧ d < m) := of_decide_eq_false h
    have CO := fun w => cOpens m o w
    rw [h] at CL
    by_cases k : opB m o = true
    · have k' : (2147483648 ≤ m ∧ m ≤ 3000000000) ∧ 3 ≤ o ∧ o < m := of_decide_eq_true k
      rw [k] at CO
      by_cases hd : d = 0
      · have hq : okB m o d = true := dec_t ⟨k', .inl hd⟩
        rw [hq]
        have he : (d == 0) = true := by simpa using hd
        clear hq h h' k k' hd
        go_enter Tryz.func119, Tryz.ntmps119
        go_wp2_with fail
        refine (CL _).mono ?_
        rintro e w1 ⟨rfl, hb⟩
        obtain ⟨hc, hf⟩ := k_bcell hb
        have HB : Hid (Below w.heap.size w w1) := ((Below.refl _ _).alloc (Nat.le_refl _) _).trans (hb.mono (by simp))
        have hz : w.heap.size < w1.heap.size := by have := hb.size; simp at this; omega
        go_wp2_with fail
        refine (CO _).mono ?_
        rintro e w2 ⟨rfl, hb2⟩
        obtain ⟨hc2, hf2⟩ := k_bcell hb2
        go_wp2_with fail
        go_ret
        exact ⟨rfl, HB.out.trans (hb2.mono HB.out.size)⟩
      · have hq : okB m o d = false := dec_f (fun x => x.2.elim hd (fun y => h' ⟨k', y⟩))
        rw [hq]
        have he : (d == 0) = false := by simpa using hd
        clear hq h h' k k'
        go_enter Tryz.func119, Tryz.ntmps119
        go_wp2_with fail
        refine (CL _).mono ?_
        rintro e w1 ⟨rfl, hb⟩
        obtain ⟨hc, hf⟩ := k_bcell hb
        have HB : Hid (Below w.heap.size w w1) := ((Below.refl _ _).alloc (Nat.le_refl _) _).trans (hb.mono (by simp))
        have hz : w.heap.size < w1.heap.size := by have := hb.size; simp at this; omega
        go_wp2_with fail
        refine (CO _).mono ?_
        rintro e w2 ⟨rfl, hb2⟩
        obtain ⟨hc2, hf2⟩ := k_bcell hb2
        go_wp2_with fail
        go_ret
        exact ⟨rfl, HB.out.trans (hb2.mono HB.out.size)⟩
    · have k : opB m o = false := by simpa using k
      have k' : ¬ ((2147483648 ≤ m ∧ m ≤ 3000000000) ∧ 3 ≤ o ∧ o < m) := of_decide_eq_false k
      have hq : okB m o d = false := dec_f (fun x => k' x.1)
      rw [hq]
      rw [k] at CO
      clear hq h h' k k'
      go_enter Tryz.func119, Tryz.ntmps119
      go_wp2_with fail
      refine (CL _).mono ?_
      rintro e w1 ⟨rfl, hb⟩
      obtain ⟨hc, hf⟩ := k_bcell hb
      have HB : Hid (Below w.heap.size w w1) := ((Below.refl _ _).alloc (Nat.le_refl _) _).trans (hb.mono (by simp))
      have hz : w.heap.size < w1.heap.size := by have := hb.size; simp at this; omega
      go_wp2_with fail
      refine (CO _).mono ?_
      rintro e w2 ⟨rfl, hb2⟩
      go_wp2_with fail
      go_ret
      exact ⟨rfl, HB.out.trans (hb2.mono HB.out.size)⟩

end Go.Proofs.YtgdfeicojgnoaaaGreatDoor
