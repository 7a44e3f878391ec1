/- Contracts of the program's keys: Public, KeyOk, Locked, Opened. -/
import Derived.Test.YtfglgadmcgkjkabKImpl
import Derived.Test.YtfglgadmcgkjkabPPow
namespace Go.Proofs.Ytfglgadmcgkjkab
open Go.RowKit
set_option linter.unusedVariables false
set_option linter.unusedSimpArgs false

set_option maxHeartbeats 1000000 in
theorem cLocks (m o d : Int) (w : World) :
    Calls Try.prog 11 #[.agg #[.int .i64 m, .int .i64 o, .int .i64 d]] w fun e w' => e = .returned (.bool (lkB m o d)) ∧ Below w.heap.size w w' := by
  have CO := fun w => cOpens m o w
  by_cases h : opB m o = true
  · have CP := fun w => cPowerOk m o d w
    obtain ⟨B, hB⟩ : ∃ B, pwB m d = B := ⟨_, rfl⟩
    have hq : lkB m o d = B := by
      have h' : (2147483648 ≤ m ∧ m ≤ 3000000000) ∧ 3 ≤ o ∧ o < m := of_decide_eq_true h
      rw [← hB]; unfold lkB pwB; simp [h']
    rw [hq]
    rw [hB] at CP
    rw [h] at CO
    clear hq hB h
    go_enter Try.func11, Try.ntmps11
    go_wp2_with fail
    refine (CO _).mono ?_
    rintro e w1 ⟨rfl, hb⟩
    obtain ⟨hc, hf⟩ := bcell hb
    have HB : Hid (Below w.heap.size w w1) := ((Below.refl _ _).alloc (Nat.le_refl _) _).trans (hb.mono (by simp))
    go_wp2_with (go_at_call 13; refine (CP _).mono ?_; rintro e w2 ⟨rfl, hb2⟩)
    go_ret
    exact ⟨rfl, HB.out.trans (hb2.mono HB.out.size)⟩
  · have h : opB m o = false := by simpa using h
    have hq : lkB m o d = false := by
      have h' : ¬ ((2147483648 ≤ m ∧ m ≤ 3000000000) ∧ 3 ≤ o ∧ o < m) := of_decide_eq_false h
      unfold lkB; exact dec_f (fun x => h' x.1)
    rw [hq]
    rw [h] at CO
    clear hq h
    go_enter Try.func11, Try.ntmps11
    go_wp2_with (go_at_call 12; refine (CO _).mono ?_; rintro e w1 ⟨rfl, hb⟩)
    go_ret
    exact ⟨rfl, ((Below.refl _ _).alloc (Nat.le_refl _) _).trans (hb.mono (by simp))⟩

set_option maxHeartbeats 1000000 in
theorem cOk (m o d : Int) (w : World) :
    Calls Try.prog 10 #[.agg #[.int .i64 m, .int .i64 o, .int .i64 d]] w fun e w' => e = .returned (.bool (okB m o d)) ∧ Below w.heap.size w w' := by
  have CL := fun w => cLocks m o d w
  by_cases h : lkB m o d = true
  · have hq : okB m o d = true := by
      have h' : ((2147483648 ≤ m ∧ m ≤ 3000000000) ∧ 3 ≤ o ∧ o < m) ∧ 3 ≤ d ∧ d < m := of_decide_eq_true h
      exact dec_t ⟨h'.1, .inr h'.2⟩
    rw [hq]
    rw [h] at CL
    clear hq h
    go_enter Try.func10, Try.ntmps10
    go_wp2_with (go_at_call 11; refine (CL _).mono ?_; rintro e w1 ⟨rfl, hb⟩)
    go_ret
    exact ⟨rfl, ((Below.refl _ _).alloc (Nat.le_refl _) _).trans (hb.mono (by simp))⟩
  · have h : lkB m o d = false := by simpa using h
    have h' : ¬ (((2147483648 ≤ m ∧ m ≤ 3000000000) ∧ 3 ≤ o ∧ o < m) ∧ 3 ≤ d ∧ d < m) := of_decide_eq_false h
    have CO := fun w => cOpens m o w
    rw [h] at CL
    by_cases k : opB m o = true
    · have k' : (2147483648 ≤ m ∧ m ≤ 3000000000) ∧ 3 ≤ o ∧ o < m := of_decide_eq_true k
      rw [k] at CO
      by_cases hd : d = 0
      · have hq : okB m o d = true := dec_t ⟨k', .inl hd⟩
        rw [hq]
        have he : (d == 0) = true := by simpa using hd
        clear hq h h' k k' hd
        go_enter Try.func10, Try.ntmps10
        go_wp2_with fail
        refine (CL _).mono ?_
        rintro e w1 ⟨rfl, hb⟩
        obtain ⟨hc, hf⟩ := bcell hb
        have HB : Hid (Below w.heap.size w w1) := ((Below.refl _ _).alloc (Nat.le_refl _) _).trans (hb.mono (by simp))
        have hz : w.heap.size < w1.heap.size := by have := hb.size; simp at this; omega
        go_wp2_with fail
        refine (CO _).mono ?_
        rintro e w2 ⟨rfl, hb2⟩
        obtain ⟨hc2, hf2⟩ := bcell hb2
        go_wp2_with fail
        go_ret
        exact ⟨rfl, HB.out.trans (hb2.mono HB.out.size)⟩
      · have hq : okB m o d = false := dec_f (fun x => x.2.elim hd (fun y => h' ⟨k', y⟩))
        rw [hq]
        have he : (d == 0) = false := by simpa using hd
        clear hq h h' k k'
        go_enter Try.func10, Try.ntmps10
        go_wp2_with fail
        refine (CL _).mono ?_
        rintro e w1 ⟨rfl, hb⟩
        obtain ⟨hc, hf⟩ := bcell hb
        have HB : Hid (Below w.heap.size w w1) := ((Below.refl _ _).alloc (Nat.le_refl _) _).trans (hb.mono (by simp))
        have hz : w.heap.size < w1.heap.size := by have := hb.size; simp at this; omega
        go_wp2_with fail
        refine (CO _).mono ?_
        rintro e w2 ⟨rfl, hb2⟩
        obtain ⟨hc2, hf2⟩ := bcell hb2
        go_wp2_with fail
        go_ret
        exact ⟨rfl, HB.out.trans (hb2.mono HB.out.size)⟩
    · have k : opB m o = false := by simpa using k
      have k' : ¬ ((2147483648 ≤ m ∧ m ≤ 3000000000) ∧ 3 ≤ o ∧ o < m) := of_decide_eq_false k
      have hq : okB m o d = false := dec_f (fun x => k' x.1)
      rw [hq]
      rw [k] at CO
      clear hq h h' k k'
      go_enter Try.func10, Try.ntmps10
      go_wp2_with fail
      refine (CL _).mono ?_
      rintro e w1 ⟨rfl, hb⟩
      obtain ⟨hc, hf⟩ := bcell hb
      have HB : Hid (Below w.heap.size w w1) := ((Below.refl _ _).alloc (Nat.le_refl _) _).trans (hb.mono (by simp))
      have hz : w.heap.size < w1.heap.size := by have := hb.size; simp at this; omega
      go_wp2_with fail
      refine (CO _).mono ?_
      rintro e w2 ⟨rfl, hb2⟩
      go_wp2_with fail
      go_ret
      exact ⟨rfl, HB.out.trans (hb2.mono HB.out.size)⟩

end Go.Proofs.Ytfglgadmcgkjkab
