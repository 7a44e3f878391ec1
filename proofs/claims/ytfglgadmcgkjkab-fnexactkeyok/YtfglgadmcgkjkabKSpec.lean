/- Contracts of Public, KeyOk, Locked and Opened, of the specification: what the program answers. -/
import Derived.Test.YtfglgadmcgkjkabKImplC
namespace Go.Proofs.Ytfglgadmcgkjkab
open Go.RowKit
set_option linter.unusedVariables false
set_option linter.unusedSimpArgs false

set_option maxHeartbeats 1000000 in
theorem cPubB (n e d : Int) (w : World) :
    Calls Try.prog 7 #[.agg #[.int .i64 n, .int .i64 e, .int .i64 d]] w fun x w' => x = .returned (.bool (opB n e)) ∧ Below w.heap.size w w' := by
  have C1 := fun w => cIn5 n 2147483648 3000000000 w
  by_cases hr : 2147483648 ≤ n ∧ n ≤ 3000000000
  · rw [dec_t hr] at C1
    have C2 := fun w => cIn5 e 3 (n - 1) w
    obtain ⟨B, hB⟩ : ∃ B, opB n e = B := ⟨_, rfl⟩
    have hq : decide (3 ≤ e ∧ e ≤ n - 1) = B := by
      rw [← hB]; unfold opB
      rw [Bool.eq_iff_iff]; simp [hr]; omega
    rw [hq] at C2
    rw [hB]
    have e1 : wrap64 (n - 1) = n - 1 := IntWalk.wrap64_in _ (by omega)
    have e2 : IntKind.i64.wrap (n - 1) = n - 1 := IntWalk.i64_in _ (by omega)
    clear hq hB
    go_enter Try.func7, Try.ntmps7
    go_wp2_with fail
    refine (C1 _).mono ?_
    rintro x w1 ⟨rfl, rfl⟩
    go_wp2_with fail
    refine (C2 _).mono ?_
    rintro x w1 ⟨rfl, rfl⟩
    go_wp2_with fail
    go_ret
    exact ⟨rfl, (Below.refl _ _).alloc (Nat.le_refl _) _⟩
  · rw [dec_f hr] at C1
    rw [show opB n e = false from dec_f (fun x => hr x.1)]
    clear hr
    go_enter Try.func7, Try.ntmps7
    go_wp2_with fail
    refine (C1 _).mono ?_
    rintro x w1 ⟨rfl, rfl⟩
    go_wp2_with fail
    go_ret
    exact ⟨rfl, (Below.refl _ _).alloc (Nat.le_refl _) _⟩

set_option maxHeartbeats 1000000 in
theorem cKeyOkS (n e d : Int) (w : World) :
    Calls Try.prog 4 #[.agg #[.int .i64 n, .int .i64 e, .int .i64 d]] w fun x w' => x = .returned (.bool (okB n e d)) ∧ Below w.heap.size w w' := by
  have C1 := fun w => cPubB n e d w
  by_cases h : opB n e = true
  · have h' : (2147483648 ≤ n ∧ n ≤ 3000000000) ∧ 3 ≤ e ∧ e < n := of_decide_eq_true h
    rw [h] at C1
    by_cases hd : d = 0
    · rw [show okB n e d = true from dec_t ⟨h', .inl hd⟩]
      have he : (d == 0) = true := by simpa using hd
      clear hd h h'
      go_enter Try.func4, Try.ntmps4
      go_wp2_with fail
      refine (C1 _).mono ?_
      rintro x w1 ⟨rfl, hb⟩
      obtain ⟨hc, hf⟩ := bcell hb
      go_wp2_with fail
      go_ret
      exact ⟨rfl, ((Below.refl _ _).alloc (Nat.le_refl _) _).trans (hb.mono (by simp))⟩
    · have C2 := fun w => cIn5 d 3 (n - 1) w
      obtain ⟨B, hB⟩ : ∃ B, okB n e d = B := ⟨_, rfl⟩
      have hq : decide (3 ≤ d ∧ d ≤ n - 1) = B := by
        rw [← hB]; unfold okB
        rw [Bool.eq_iff_iff]; simp [h', hd]; omega
      rw [hq] at C2
      rw [hB]
      have e1 : wrap64 (n - 1) = n - 1 := IntWalk.wrap64_in _ (by omega)
      have e2 : IntKind.i64.wrap (n - 1) = n - 1 := IntWalk.i64_in _ (by omega)
      have he : (d == 0) = false := by simpa using hd
      clear hd hq hB h h'
      go_enter Try.func4, Try.ntmps4
      go_wp2_with fail
      refine (C1 _).mono ?_
      rintro x w1 ⟨rfl, hb⟩
      obtain ⟨hc, hf⟩ := bcell hb
      have HB : Hid (Below w.heap.size w w1) := ((Below.refl _ _).alloc (Nat.le_refl _) _).trans (hb.mono (by simp))
      go_wp2_with fail
      refine (C2 _).mono ?_
      rintro x w2 ⟨rfl, rfl⟩
      go_wp2_with fail
      go_ret
      exact ⟨rfl, HB.out⟩
  · have h : opB n e = false := by simpa using h
    have h' : ¬ ((2147483648 ≤ n ∧ n ≤ 3000000000) ∧ 3 ≤ e ∧ e < n) := of_decide_eq_false h
    rw [h] at C1
    rw [show okB n e d = false from dec_f (fun x => h' x.1)]
    clear h h'
    go_enter Try.func4, Try.ntmps4
    go_wp2_with fail
    refine (C1 _).mono ?_
    rintro x w1 ⟨rfl, hb⟩
    go_wp2_with fail
    go_ret
    exact ⟨rfl, ((Below.refl _ _).alloc (Nat.le_refl _) _).trans (hb.mono (by simp))⟩

theorem lk_ok (n e d : Int) : lkB n e d = (okB n e d && !(d == 0)) := by
  unfold lkB okB
  rw [Bool.eq_iff_iff]
  simp
  omega

end Go.Proofs.Ytfglgadmcgkjkab
