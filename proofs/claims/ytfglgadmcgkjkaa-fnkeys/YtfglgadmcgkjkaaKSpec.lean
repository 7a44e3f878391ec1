/- Contracts of Public, KeyOk, Locked and Opened, of the specification: what the program answers. -/
import Derived.Test.YtfglgadmcgkjkaaKImplC
namespace Go.Proofs.Ytfglgadmcgkjkaa
open Go.RowKit
set_option linter.unusedVariables false
set_option linter.unusedSimpArgs false

set_option maxHeartbeats 1000000 in
theorem cPubB (n e d : Int) (w : World) :
    Calls Try.prog 43 #[.agg #[.int .i64 n, .int .i64 e, .int .i64 d]] w fun x w' => x = .returned (.bool (opB n e)) ∧ Below w.heap.size w w' := by
  have C1 := fun w => cIn5 n 2147483648 3000000000 w
  by_cases hr : 2147483648 ≤ n ∧ n ≤ 3000000000
  · rw [dec_t hr] at C1
    have C2 := fun w => cIn5 e 3 (n - 1) w
    obtain ⟨B, hB⟩ : ∃ B, opB n e = B := ⟨_, rfl⟩
    have hq : decide (3 ≤ e ∧ e ≤ n - 1) = B := by
      rw [← hB]; unfold opB
      rw [Bool.eq_iff_iff]; simp [hr]; omega
    rw [hq] at C2
    rw [hB]
    have e1 : wrap64 (n - 1) = n - 1 := IntWalk.wrap64_in _ (by omega)
    have e2 : IntKind.i64.wrap (n - 1) = n - 1 := IntWalk.i64_in _ (by omega)
    clear hq hB
    go_enter Try.func43, Try.ntmps43
    go_wp2_with fail
    refine (C1 _).mono ?_
    rintro x w1 ⟨rfl, rfl⟩
    go_wp2_with fail
    refine (C2 _).mono ?_
    rintro x w1 ⟨rfl, rfl⟩
    go_wp2_with fail
    go_ret
    exact ⟨rfl, (Below.refl _ _).alloc (Nat.le_refl _) _⟩
  · rw [dec_f hr] at C1
    rw [show opB n e = false from dec_f (fun x => hr x.1)]
    clear hr
    go_enter Try.func43, Try.ntmps43
    go_wp2_with fail
    refine (C1 _).mono ?_
    rintro x w1 ⟨rfl, rfl⟩
    go_wp2_with fail
    go_ret
    exact ⟨rfl, (Below.refl _ _).alloc (Nat.le_refl _) _⟩

set_option maxHeartbeats 1000000 in
theorem cKeyOkS (n e d : Int) (w : World) :
    Calls Try.prog 17 #[.agg #[.int .i64 n, .int .i64 e, .int .i64 d]] w fun x w' => x = .returned (.bool (okB n e d)) ∧ Below w.heap.size w w' := by
  have C1 := fun w => cPubB n e d w
  by_cases h : opB n e = true
  · have h' : (2147483648 ≤ n ∧ n ≤ 3000000000) ∧ 3 ≤ e ∧ e < n := of_decide_eq_true h
    rw [h] at C1
    by_cases hd : d = 0
    · rw [show okB n e d = true from dec_t ⟨h', .inl hd⟩]
      have he : (d == 0) = true := by simpa using hd
      clear hd h h'
      go_enter Try.func17, Try.ntmps17
      go_wp2_with fail
      refine (C1 _).mono ?_
      rintro x w1 ⟨rfl, hb⟩
      obtain ⟨hc, hf⟩ := bcell hb
      go_wp2_with fail
      go_ret
      exact ⟨rfl, ((Below.refl _ _).alloc (Nat.le_refl _) _).trans (hb.mono (by simp))⟩
    · have C2 := fun w => cIn5 d 3 (n - 1) w
      obtain ⟨B, hB⟩ : ∃ B, okB n e d = B := ⟨_, rfl⟩
      have hq : decide (3 ≤ d ∧ d ≤ n - 1) = B := by
        rw [← hB]; unfold okB
        rw [Bool.eq_iff_iff]; simp [h', hd]; omega
      rw [hq] at C2
      rw [hB]
      have e1 : wrap64 (n - 1) = n - 1 := IntWalk.wrap64_in _ (by omega)
      have e2 : IntKind.i64.wrap (n - 1) = n - 1 := IntWalk.i64_in _ (by omega)
      have he : (d == 0) = false := by simpa using hd
      clear hd hq hB h h'
      go_enter Try.func17, Try.ntmps17
      go_wp2_with fail
      refine (C1 _).mono ?_
      rintro x w1 ⟨rfl, hb⟩
      obtain ⟨hc, hf⟩ := bcell hb
      have HB : Hid (Below w.heap.size w w1) := ((Below.refl _ _).alloc (Nat.le_refl _) _).trans (hb.mono (by simp))
      go_wp2_with fail
      refine (C2 _).mono ?_
      rintro x w2 ⟨rfl, rfl⟩
      go_wp2_with fail
      go_ret
      exact ⟨rfl, HB.out⟩
  · have h : opB n e = false := by simpa using h
    have h' : ¬ ((2147483648 ≤ n ∧ n ≤ 3000000000) ∧ 3 ≤ e ∧ e < n) := of_decide_eq_false h
    rw [h] at C1
    rw [show okB n e d = false from dec_f (fun x => h' x.1)]
    clear h h'
    go_enter Try.func17, Try.ntmps17
    go_wp2_with fail
    refine (C1 _).mono ?_
    rintro x w1 ⟨rfl, hb⟩
    go_wp2_with fail
    go_ret
    exact ⟨rfl, ((Below.refl _ _).alloc (Nat.le_refl _) _).trans (hb.mono (by simp))⟩

set_option maxHeartbeats 1000000 in
theorem cPublicS (n e d : Int) (w : World) :
    Calls Try.prog 15 #[.agg #[.int .i64 n, .int .i64 e, .int .i64 d]] w fun x w' => x = .returned (.agg #[.int .i64 (pubN n e), .int .i64 (pubE n e), .int .i64 0]) ∧ Below w.heap.size w w' := by
  have CO := fun w => cPubB n e d w
  by_cases h : opB n e = true
  · rw [show pubN n e = n by unfold pubN; rw [if_pos h], show pubE n e = e by unfold pubE; rw [if_pos h]]
    rw [h] at CO
    go_enter Try.func15, Try.ntmps15
    go_wp2_with fail
    refine (CO _).mono ?_
    rintro x w1 ⟨rfl, hb⟩
    obtain ⟨hc, hf⟩ := bcell hb
    have HB : Hid (Below w.heap.size w w1) := (((Below.refl _ _).alloc (Nat.le_refl _) _).alloc (by simp) _).trans (hb.mono (by simp; omega))
    have hz : w.heap.size + 1 < w1.heap.size := by have := hb.size; simp at this; omega
    have hz0 : w.heap.size < w1.heap.size := by omega
    go_wp2_with fail
    refine bodyPost_ret (v := .agg #[.int .i64 n, .int .i64 e, .int .i64 0]) (by simp [results, Try.results15, go_sem, hc, hz, hz0]) rfl ⟨rfl, ?_⟩
    repeat first | exact HB.out | refine Below.setCell ?_ (by simp; try omega) _ | refine Below.alloc ?_ (by simp; try omega) _
  · rw [show pubN n e = 0 by unfold pubN; rw [if_neg h], show pubE n e = 0 by unfold pubE; rw [if_neg h]]
    have h : opB n e = false := by simpa using h
    rw [h] at CO
    go_enter Try.func15, Try.ntmps15
    go_wp2_with fail
    refine (CO _).mono ?_
    rintro x w1 ⟨rfl, hb⟩
    obtain ⟨hc, hf⟩ := bcell hb
    have HB : Hid (Below w.heap.size w w1) := (((Below.refl _ _).alloc (Nat.le_refl _) _).alloc (by simp) _).trans (hb.mono (by simp; omega))
    have hz : w.heap.size + 1 < w1.heap.size := by have := hb.size; simp at this; omega
    have hz0 : w.heap.size < w1.heap.size := by omega
    go_wp2_with fail
    refine bodyPost_ret (v := .agg #[.int .i64 0, .int .i64 0, .int .i64 0]) (by simp [results, Try.results15, go_sem, hc, hz, hz0]) rfl ⟨rfl, ?_⟩
    repeat first | exact HB.out | refine Below.setCell ?_ (by simp; try omega) _ | refine Below.alloc ?_ (by simp; try omega) _

theorem lk_ok (n e d : Int) : lkB n e d = (okB n e d && !(d == 0)) := by
  unfold lkB okB
  rw [Bool.eq_iff_iff]
  simp
  omega

set_option maxHeartbeats 1000000 in
theorem cLockedS (n e d h : Int) (w : World) (hd : d ≤ 9223372036854775807) :
    Calls Try.prog 22 #[.agg #[.int .i64 n, .int .i64 e, .int .i64 d], .int .i64 h] w fun x w' => x = .returned (.int .i64 (lockI n e d h)) ∧ Below w.heap.size w w' := by
  have CK := fun w => cKeyOkS n e d w
  by_cases k : okB n e d = true
  · have k' : ((2147483648 ≤ n ∧ n ≤ 3000000000) ∧ 3 ≤ e ∧ e < n) ∧ (d = 0 ∨ 3 ≤ d ∧ d < n) := of_decide_eq_true k
    rw [k] at CK
    by_cases h0 : d = 0
    · have hl : lockI n e d h = -1 := by unfold lockI; rw [lk_ok, h0]; simp
      rw [hl]
      have he : (d == 0) = true := by simpa using h0
      clear k k' h0 hl
      go_enter Try.func22, Try.ntmps22
      go_wp2_with fail
      refine (CK _).mono ?_
      rintro x w1 ⟨rfl, hb⟩
      obtain ⟨hc, hf⟩ := bcell hb
      go_wp2_with fail
      go_ret
      exact ⟨rfl, ((Below.refl _ _).alloc (Nat.le_refl _) _).trans (hb.mono (by simp))⟩
    · have he : (d == 0) = false := by simpa using h0
      have hl : lockI n e d h = powI h d n := by unfold lockI; rw [lk_ok, he, k]; rfl
      rw [hl]
      have e1 : wrap64 (n - 1) = n - 1 := IntWalk.wrap64_in _ (by omega)
      have e2 : IntKind.i64.wrap (n - 1) = n - 1 := IntWalk.i64_in _ (by omega)
      have C2 := fun w => cIn5 h 0 (n - 1) w
      by_cases hh : 0 ≤ h ∧ h ≤ n - 1
      · rw [dec_t hh] at C2
        have hp : powI h d n = (powOf h.toNat d.toNat n.toNat : Nat) := powI_ok ⟨⟨by omega, by omega⟩, by omega, by omega⟩ (by omega)
        rw [hp]
        have hd3 : 3 ≤ d ∧ d < n := by omega
        obtain ⟨H, rfl⟩ : ∃ A : Nat, h = A := ⟨h.toNat, by omega⟩
        obtain ⟨D, rfl⟩ : ∃ A : Nat, d = A := ⟨d.toNat, by omega⟩
        obtain ⟨N, rfl⟩ : ∃ A : Nat, n = A := ⟨n.toNat, by omega⟩
        simp only [Int.toNat_natCast]
        have CP := fun w => cPowerL H D N w (by omega) (by omega) (by omega) hd
        generalize powOf H D N = R at *
        clear k hl hp
        go_enter Try.func22, Try.ntmps22
        go_wp2_with fail
        refine (CK _).mono ?_
        rintro x w1 ⟨rfl, hb⟩
        obtain ⟨hc, hf⟩ := bcell hb
        have HB : Hid (Below w.heap.size w w1) := ((Below.refl _ _).alloc (Nat.le_refl _) _).trans (hb.mono (by simp))
        go_wp2_with fail
        refine (C2 _).mono ?_
        rintro x w2 ⟨rfl, rfl⟩
        go_wp2_with fail
        refine (CP _).mono ?_
        rintro x w3 ⟨rfl, rfl⟩
        go_wp2_with fail
        go_ret
        exact ⟨rfl, HB.out⟩
      · rw [dec_f hh] at C2
        have hp : powI h d n = -1 := powI_no1 (fun x => hh ⟨x.2.1, by have := x.2.2; omega⟩)
        rw [hp]
        clear k hl hp hh k' h0
        go_enter Try.func22, Try.ntmps22
        go_wp2_with fail
        refine (CK _).mono ?_
        rintro x w1 ⟨rfl, hb⟩
        obtain ⟨hc, hf⟩ := bcell hb
        have HB : Hid (Below w.heap.size w w1) := ((Below.refl _ _).alloc (Nat.le_refl _) _).trans (hb.mono (by simp))
        go_wp2_with fail
        refine (C2 _).mono ?_
        rintro x w2 ⟨rfl, rfl⟩
        go_wp2_with fail
        go_ret
        exact ⟨rfl, HB.out⟩
  · have k : okB n e d = false := by simpa using k
    rw [k] at CK
    have hl : lockI n e d h = -1 := by unfold lockI; rw [lk_ok, k]; simp
    rw [hl]
    clear k hl
    go_enter Try.func22, Try.ntmps22
    go_wp2_with fail
    refine (CK _).mono ?_
    rintro x w1 ⟨rfl, hb⟩
    go_wp2_with fail
    go_ret
    exact ⟨rfl, ((Below.refl _ _).alloc (Nat.le_refl _) _).trans (hb.mono (by simp))⟩

set_option maxHeartbeats 1000000 in
theorem cOpenedS (n e d h : Int) (w : World) (hE : e ≤ 9223372036854775807) :
    Calls Try.prog 24 #[.agg #[.int .i64 n, .int .i64 e, .int .i64 d], .int .i64 h] w fun x w' => x = .returned (.int .i64 (openI n e d h)) ∧ Below w.heap.size w w' := by
  have CK := fun w => cKeyOkS n e d w
  by_cases k : okB n e d = true
  · have k' : ((2147483648 ≤ n ∧ n ≤ 3000000000) ∧ 3 ≤ e ∧ e < n) ∧ (d = 0 ∨ 3 ≤ d ∧ d < n) := of_decide_eq_true k
    have hl : openI n e d h = powI h e n := by unfold openI; rw [k]; rfl
    rw [hl]
    rw [k] at CK
    have e1 : wrap64 (n - 1) = n - 1 := IntWalk.wrap64_in _ (by omega)
    have e2 : IntKind.i64.wrap (n - 1) = n - 1 := IntWalk.i64_in _ (by omega)
    have C2 := fun w => cIn5 h 0 (n - 1) w
    by_cases hh : 0 ≤ h ∧ h ≤ n - 1
    · rw [dec_t hh] at C2
      have hp : powI h e n = (powOf h.toNat e.toNat n.toNat : Nat) := powI_ok ⟨⟨by omega, by omega⟩, by omega, by omega⟩ (by omega)
      rw [hp]
      obtain ⟨H, rfl⟩ : ∃ A : Nat, h = A := ⟨h.toNat, by omega⟩
      obtain ⟨E, rfl⟩ : ∃ A : Nat, e = A := ⟨e.toNat, by omega⟩
      obtain ⟨N, rfl⟩ : ∃ A : Nat, n = A := ⟨n.toNat, by omega⟩
      simp only [Int.toNat_natCast]
      have CP := fun w => cPowerL H E N w (by omega) (by omega) (by omega) hE
      generalize powOf H E N = R at *
      clear k hl hp k'
      go_enter Try.func24, Try.ntmps24
      go_wp2_with fail
      refine (CK _).mono ?_
      rintro x w1 ⟨rfl, hb⟩
      obtain ⟨hc, hf⟩ := bcell hb
      have HB : Hid (Below w.heap.size w w1) := ((Below.refl _ _).alloc (Nat.le_refl _) _).trans (hb.mono (by simp))
      go_wp2_with fail
      refine (C2 _).mono ?_
      rintro x w2 ⟨rfl, rfl⟩
      go_wp2_with fail
      refine (CP _).mono ?_
      rintro x w3 ⟨rfl, rfl⟩
      go_wp2_with fail
      go_ret
      exact ⟨rfl, HB.out⟩
    · rw [dec_f hh] at C2
      have hp : powI h e n = -1 := powI_no1 (fun x => hh ⟨x.2.1, by have := x.2.2; omega⟩)
      rw [hp]
      clear k hl hp hh k'
      go_enter Try.func24, Try.ntmps24
      go_wp2_with fail
      refine (CK _).mono ?_
      rintro x w1 ⟨rfl, hb⟩
      obtain ⟨hc, hf⟩ := bcell hb
      have HB : Hid (Below w.heap.size w w1) := ((Below.refl _ _).alloc (Nat.le_refl _) _).trans (hb.mono (by simp))
      go_wp2_with fail
      refine (C2 _).mono ?_
      rintro x w2 ⟨rfl, rfl⟩
      go_wp2_with fail
      go_ret
      exact ⟨rfl, HB.out⟩
  · have k : okB n e d = false := by simpa using k
    rw [k] at CK
    have hl : openI n e d h = -1 := by unfold openI; rw [k]; simp
    rw [hl]
    clear k hl
    go_enter Try.func24, Try.ntmps24
    go_wp2_with fail
    refine (CK _).mono ?_
    rintro x w1 ⟨rfl, hb⟩
    go_wp2_with fail
    go_ret
    exact ⟨rfl, ((Below.refl _ _).alloc (Nat.le_refl _) _).trans (hb.mono (by simp))⟩

end Go.Proofs.Ytfglgadmcgkjkaa
