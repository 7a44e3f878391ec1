/- Contracts of the program's keys: Public, KeyOk, Locked, Opened. -/
import Derived.Test.YtfglgadmcgkjkaaKImpl
import Derived.Test.YtfglgadmcgkjkaaPPow
namespace Go.Proofs.Ytfglgadmcgkjkaa
open Go.RowKit
set_option linter.unusedVariables false
set_option linter.unusedSimpArgs false

set_option maxHeartbeats 1000000 in
theorem cLocks (m o d : Int) (w : World) :
    Calls Try.prog 34 #[.agg #[.int .i64 m, .int .i64 o, .int .i64 d]] w fun e w' => e = .returned (.bool (lkB m o d)) ∧ Below w.heap.size w w' := by
  have CO := fun w => cOpens m o w
  by_cases h : opB m o = true
  · have CP := fun w => cPowerOk m o d w
    obtain ⟨B, hB⟩ : ∃ B, pwB m d = B := ⟨_, rfl⟩
    have hq : lkB m o d = B := by
      have h' : (2147483648 ≤ m ∧ m ≤ 3000000000) ∧ 3 ≤ o ∧ o < m := of_decide_eq_true h
      rw [← hB]; unfold lkB pwB; simp [h']
    rw [hq]
    rw [hB] at CP
    rw [h] at CO
    clear hq hB h
    go_enter Try.func34, Try.ntmps34
    go_wp2_with fail
    refine (CO _).mono ?_
    rintro e w1 ⟨rfl, hb⟩
    obtain ⟨hc, hf⟩ := bcell hb
    have HB : Hid (Below w.heap.size w w1) := ((Below.refl _ _).alloc (Nat.le_refl _) _).trans (hb.mono (by simp))
    go_wp2_with (go_at_call 56; refine (CP _).mono ?_; rintro e w2 ⟨rfl, hb2⟩)
    go_ret
    exact ⟨rfl, HB.out.trans (hb2.mono HB.out.size)⟩
  · have h : opB m o = false := by simpa using h
    have hq : lkB m o d = false := by
      have h' : ¬ ((2147483648 ≤ m ∧ m ≤ 3000000000) ∧ 3 ≤ o ∧ o < m) := of_decide_eq_false h
      unfold lkB; exact dec_f (fun x => h' x.1)
    rw [hq]
    rw [h] at CO
    clear hq h
    go_enter Try.func34, Try.ntmps34
    go_wp2_with (go_at_call 38; refine (CO _).mono ?_; rintro e w1 ⟨rfl, hb⟩)
    go_ret
    exact ⟨rfl, ((Below.refl _ _).alloc (Nat.le_refl _) _).trans (hb.mono (by simp))⟩

set_option maxHeartbeats 1000000 in
theorem cOk (m o d : Int) (w : World) :
    Calls Try.prog 44 #[.agg #[.int .i64 m, .int .i64 o, .int .i64 d]] w fun e w' => e = .returned (.bool (okB m o d)) ∧ Below w.heap.size w w' := by
  have CL := fun w => cLocks m o d w
  by_cases h : lkB m o d = true
  · have hq : okB m o d = true := by
      have h' : ((2147483648 ≤ m ∧ m ≤ 3000000000) ∧ 3 ≤ o ∧ o < m) ∧ 3 ≤ d ∧ d < m := of_decide_eq_true h
      exact dec_t ⟨h'.1, .inr h'.2⟩
    rw [hq]
    rw [h] at CL
    clear hq h
    go_enter Try.func44, Try.ntmps44
    go_wp2_with (go_at_call 34; refine (CL _).mono ?_; rintro e w1 ⟨rfl, hb⟩)
    go_ret
    exact ⟨rfl, ((Below.refl _ _).alloc (Nat.le_refl _) _).trans (hb.mono (by simp))⟩
  · have h : lkB m o d = false := by simpa using h
    have h' : ¬ (((2147483648 ≤ m ∧ m ≤ 3000000000) ∧ 3 ≤ o ∧ o < m) ∧ 3 ≤ d ∧ d < m) := of_decide_eq_false h
    have CO := fun w => cOpens m o w
    rw [h] at CL
    by_cases k : opB m o = true
    · have k' : (2147483648 ≤ m ∧ m ≤ 3000000000) ∧ 3 ≤ o ∧ o < m := of_decide_eq_true k
      rw [k] at CO
      by_cases hd : d = 0
      · have hq : okB m o d = true := dec_t ⟨k', .inl hd⟩
        rw [hq]
        have he : (d == 0) = true := by simpa using hd
        clear hq h h' k k' hd
        go_enter Try.func44, Try.ntmps44
        go_wp2_with fail
        refine (CL _).mono ?_
        rintro e w1 ⟨rfl, hb⟩
        obtain ⟨hc, hf⟩ := bcell hb
        have HB : Hid (Below w.heap.size w w1) := ((Below.refl _ _).alloc (Nat.le_refl _) _).trans (hb.mono (by simp))
        have hz : w.heap.size < w1.heap.size := by have := hb.size; simp at this; omega
        go_wp2_with fail
        refine (CO _).mono ?_
        rintro e w2 ⟨rfl, hb2⟩
        obtain ⟨hc2, hf2⟩ := bcell hb2
        go_wp2_with fail
        go_ret
        exact ⟨rfl, HB.out.trans (hb2.mono HB.out.size)⟩
      · have hq : okB m o d = false := dec_f (fun x => x.2.elim hd (fun y => h' ⟨k', y⟩))
        rw [hq]
        have he : (d == 0) = false := by simpa using hd
        clear hq h h' k k'
        go_enter Try.func44, Try.ntmps44
        go_wp2_with fail
        refine (CL _).mono ?_
        rintro e w1 ⟨rfl, hb⟩
        obtain ⟨hc, hf⟩ := bcell hb
        have HB : Hid (Below w.heap.size w w1) := ((Below.refl _ _).alloc (Nat.le_refl _) _).trans (hb.mono (by simp))
        have hz : w.heap.size < w1.heap.size := by have := hb.size; simp at this; omega
        go_wp2_with fail
        refine (CO _).mono ?_
        rintro e w2 ⟨rfl, hb2⟩
        obtain ⟨hc2, hf2⟩ := bcell hb2
        go_wp2_with fail
        go_ret
        exact ⟨rfl, HB.out.trans (hb2.mono HB.out.size)⟩
    · have k : opB m o = false := by simpa using k
      have k' : ¬ ((2147483648 ≤ m ∧ m ≤ 3000000000) ∧ 3 ≤ o ∧ o < m) := of_decide_eq_false k
      have hq : okB m o d = false := dec_f (fun x => k' x.1)
      rw [hq]
      rw [k] at CO
      clear hq h h' k k'
      go_enter Try.func44, Try.ntmps44
      go_wp2_with fail
      refine (CL _).mono ?_
      rintro e w1 ⟨rfl, hb⟩
      obtain ⟨hc, hf⟩ := bcell hb
      have HB : Hid (Below w.heap.size w w1) := ((Below.refl _ _).alloc (Nat.le_refl _) _).trans (hb.mono (by simp))
      have hz : w.heap.size < w1.heap.size := by have := hb.size; simp at this; omega
      go_wp2_with fail
      refine (CO _).mono ?_
      rintro e w2 ⟨rfl, hb2⟩
      go_wp2_with fail
      go_ret
      exact ⟨rfl, HB.out.trans (hb2.mono HB.out.size)⟩

theorem cTold (m o d : Int) (w : World) :
    Calls Try.prog 35 #[.agg #[.int .i64 m, .int .i64 o, .int .i64 d]] w fun e w' => e = .returned (.agg #[.int .i64 m, .int .i64 o, .int .i64 d]) ∧ Below w.heap.size w w' := by
  have CS := fun w => cShown m o w
  go_enter Try.func35, Try.ntmps35
  go_wp2_with fail
  refine (CS _).mono ?_
  rintro e w1 ⟨rfl, hb⟩
  obtain ⟨hc, hf⟩ := bcell hb
  have HB : Hid (Below w.heap.size w w1) := (((Below.refl _ _).alloc (Nat.le_refl _) _).alloc (by simp) _).trans (hb.mono (by simp; omega))
  have hz : w.heap.size + 1 < w1.heap.size := by have := hb.size; simp at this; omega
  have hz0 : w.heap.size < w1.heap.size := by omega
  go_wp2_with fail
  refine bodyPost_ret (v := .agg #[.int .i64 m, .int .i64 o, .int .i64 d]) (by simp [results, Try.results35, go_sem, hc, hz]) rfl ⟨rfl, ?_⟩
  repeat first | exact HB.out | refine Below.setCell ?_ (by simp; try omega) _ | refine Below.alloc ?_ (by simp; try omega) _

theorem cRaised (m o r p : Int) (w : World) (hp : p ≤ 9223372036854775807) :
    Calls Try.prog 45 #[.agg #[.int .i64 m, .int .i64 o], .int .i64 r, .int .i64 p] w fun e w' => e = .returned (.int .i64 (powI r p m)) ∧ Below w.heap.size w w' := by
  have C := fun w => cPowerI r p m w hp
  generalize powI r p m = x at *
  go_enter Try.func45, Try.ntmps45
  go_wp2_with fail
  refine (C _).mono ?_
  rintro e w1 ⟨rfl, hb⟩
  go_wp2_with fail
  go_ret
  exact ⟨rfl, ((Below.refl _ _).alloc (Nat.le_refl _) _).trans (hb.mono (by simp))⟩

end Go.Proofs.Ytfglgadmcgkjkaa
