/- Contracts of Power, of the program and of the specification: one answer. -/
import Derived.Test.YtfglgadmcgkjkaaPTimes
import Derived.Test.YtfglgadmcgkjkaaPPowM
namespace Go.Proofs.Ytfglgadmcgkjkaa
open Go.RowKit
set_option linter.unusedVariables false
set_option linter.unusedSimpArgs false

theorem step_even (p a e n R : Nat) (he : e % 2 = 0) (hR : p * a ^ e % n = R) : p * (timesOf a a n) ^ (e / 2) % n = R := by
  unfold timesOf
  rw [pow_even p a e n he]
  exact hR

theorem step_odd (p a e n R : Nat) (he : e % 2 = 1) (hR : p * a ^ e % n = R) : timesOf p a n * (timesOf a a n) ^ (e / 2) % n = R := by
  unfold timesOf
  rw [pow_odd p a e n he]
  exact hR

theorem step_end (p a n R : Nat) (hp : p < n) (hR : p * a ^ 0 % n = R) : p = R := by
  rw [Nat.pow_zero, Nat.mul_one, Nat.mod_eq_of_lt hp] at hR
  exact hR

theorem step_start (a e n : Nat) : 1 * a ^ e % n = powOf a e n := by
  unfold powOf
  rw [Nat.one_mul]

set_option maxHeartbeats 2000000 in
theorem cPowerOf (a e n : Nat) (w : World) (h0 : 2 ≤ n) (hn : n ≤ 3000000000) (ha : a < n) (hE : (e : Int) ≤ 9223372036854775807) :
    Calls Try.prog 63 #[.int .i64 a, .int .i64 e, .int .i64 n] w fun x w' => x = .returned (.int .i64 (powOf a e n : Nat)) ∧ w' = w := by
  have hst := step_start a e n
  have hlt := powOf_lt a e n (by omega)
  obtain ⟨R, hR⟩ : ∃ R : Nat, powOf a e n = R := ⟨_, rfl⟩
  rw [hR] at hst hlt ⊢
  have HS : Hid (1 * a ^ e % n = R) := hst
  clear hst hR
  go_enter Try.func63, Try.ntmps63
  go_wp2
  go_loop [0, 1, 7] (fun x y z => ∃ a' e' p' : Nat, x = .int .i64 (a' : Int) ∧ y = .int .i64 (e' : Int) ∧ z = .int .i64 (p' : Int) ∧ a' < n ∧ p' < n ∧ e' ≤ e ∧ Hid (p' * a' ^ e' % n = R)) (fun _ y _ => (intOf y).toNat)
  case atStart => exact ⟨a, e, 1, rfl, rfl, rfl, ha, by omega, Nat.le_refl _, HS⟩
  case round =>
    obtain ⟨a', e', p', rfl, rfl, rfl, ha', hp', he', HR⟩ := hrel
    have t1 := half_tdiv e'
    have t2 := half_tmod e'
    obtain ⟨d, hd⟩ : ∃ d : Nat, e' / 2 = d := ⟨_, rfl⟩
    have HD : Hid (e' / 2 = d) := hd
    rw [hd] at t1
    have C2 := fun w => cProduct a' a' n w h0 hn ha' ha'
    have l2 := timesOf_lt a' a' n (by omega)
    have C1 := fun w => cProduct p' a' n w h0 hn hp' ha'
    have l1 := timesOf_lt p' a' n (by omega)
    by_cases hz : e' = 0
    · subst hz
      have := step_end p' a' n R hp' HR.out
      subst this
      clear C1 C2 t1 t2 hd HD
      go_wp2_with fail
      go_ret
      exact ⟨rfl, rfl⟩
    · have hpos : decide ((0 : Int) < (e' : Int)) = true := by simp; omega
      have hdl : d < e' := by omega
      rcases (show e' % 2 = 0 ∨ e' % 2 = 1 by omega) with h2 | h2
      · have HN : Hid (p' * (timesOf a' a' n) ^ d % n = R) := by
          have := step_even p' a' e' n R h2 HR.out
          rw [HD.out] at this
          exact this
        rw [h2] at t2
        generalize timesOf a' a' n = X at *
        clear C1 l1 hd HR HD h2
        go_wp2_with fail
        refine (C2 _).mono ?_
        rintro x w' ⟨rfl, rfl⟩
        go_wp2_with fail
        go_round
        case rel => exact ⟨X, d, p', rfl, rfl, rfl, l2, hp', by omega, HN⟩
        case measure => simp [intOf]; omega
      · have HN : Hid (timesOf p' a' n * (timesOf a' a' n) ^ d % n = R) := by
          have := step_odd p' a' e' n R h2 HR.out
          rw [HD.out] at this
          exact this
        rw [h2] at t2
        generalize timesOf a' a' n = X at *
        generalize timesOf p' a' n = Y at *
        clear hd HR HD h2
        go_wp2_with fail
        refine (C1 _).mono ?_
        rintro x w' ⟨rfl, rfl⟩
        go_wp2_with fail
        refine (C2 _).mono ?_
        rintro x w' ⟨rfl, rfl⟩
        go_wp2_with fail
        go_round
        case rel => exact ⟨X, d, Y, rfl, rfl, rfl, l2, l1, by omega, HN⟩
        case measure => simp [intOf]; omega

set_option maxHeartbeats 2000000 in
theorem cPowerL (a e n : Nat) (w : World) (h0 : 2 ≤ n) (hn : n ≤ 3000000000) (ha : a < n) (hE : (e : Int) ≤ 9223372036854775807) :
    Calls Try.prog 48 #[.int .i64 a, .int .i64 e, .int .i64 n] w fun x w' => x = .returned (.int .i64 (powOf a e n : Nat)) ∧ w' = w := by
  have hst := step_start a e n
  have hlt := powOf_lt a e n (by omega)
  obtain ⟨R, hR⟩ : ∃ R : Nat, powOf a e n = R := ⟨_, rfl⟩
  rw [hR] at hst hlt ⊢
  have HS : Hid (1 * a ^ e % n = R) := hst
  clear hst hR
  have hz : ¬ (n : Int) = 0 := by omega
  have h1 : (1 : Int).tmod (n : Int) = 1 := by
    have := (Int.ofNat_tmod 1 n).symm
    rw [Nat.mod_eq_of_lt (by omega)] at this
    exact this
  go_enter Try.func48, Try.ntmps48
  go_wp2
  go_loop [0, 1, 7] (fun x y z => ∃ a' e' p' : Nat, x = .int .i64 (a' : Int) ∧ y = .int .i64 (e' : Int) ∧ z = .int .i64 (p' : Int) ∧ a' < n ∧ p' < n ∧ e' ≤ e ∧ Hid (p' * a' ^ e' % n = R)) (fun _ y _ => (intOf y).toNat)
  case atStart => exact ⟨a, e, 1, rfl, rfl, by first | rfl | simp, ha, by omega, Nat.le_refl _, HS⟩
  case round =>
    obtain ⟨a', e', p', rfl, rfl, rfl, ha', hp', he', HR⟩ := hrel
    clear h1
    have t1 := half_tdiv e'
    have t2 := half_tmod e'
    obtain ⟨d, hd⟩ : ∃ d : Nat, e' / 2 = d := ⟨_, rfl⟩
    have HD : Hid (e' / 2 = d) := hd
    rw [hd] at t1
    obtain ⟨P2, hP2, p21, p22, p23⟩ := prod_facts a' a' n hn ha' ha'
    have l2 := timesOf_lt a' a' n (by omega)
    obtain ⟨P1, hP1, p11, p12, p13⟩ := prod_facts p' a' n hn hp' ha'
    have l1 := timesOf_lt p' a' n (by omega)
    clear hP2 hP1
    by_cases hz : e' = 0
    · subst hz
      have := step_end p' a' n R hp' HR.out
      subst this
      clear t1 t2 hd HD p21 p22 p23 p11 p12 p13
      go_wp2_with fail
      go_ret
      exact ⟨rfl, rfl⟩
    · have hpos : decide ((0 : Int) < (e' : Int)) = true := by simp; omega
      have hdl : d < e' := by omega
      rcases (show e' % 2 = 0 ∨ e' % 2 = 1 by omega) with h2 | h2
      · have HN : Hid (p' * (timesOf a' a' n) ^ d % n = R) := by
          have := step_even p' a' e' n R h2 HR.out
          rw [HD.out] at this
          exact this
        rw [h2] at t2
        generalize timesOf a' a' n = X at *
        have e4 : wrap64 (X : Int) = (X : Int) := IntWalk.wrap64_in _ (by omega)
        clear p11 p12 p13 l1 hd HR HD h2
        go_wp2_with fail
        go_round
        case rel => exact ⟨X, d, p', rfl, rfl, rfl, l2, hp', by omega, HN⟩
        case measure => simp [intOf]; omega
      · have HN : Hid (timesOf p' a' n * (timesOf a' a' n) ^ d % n = R) := by
          have := step_odd p' a' e' n R h2 HR.out
          rw [HD.out] at this
          exact this
        rw [h2] at t2
        generalize timesOf a' a' n = X at *
        generalize timesOf p' a' n = Y at *
        have e4 : wrap64 (X : Int) = (X : Int) := IntWalk.wrap64_in _ (by omega)
        have e5 : wrap64 (Y : Int) = (Y : Int) := IntWalk.wrap64_in _ (by omega)
        clear hd HR HD h2
        go_wp2_with fail
        go_round
        case rel => exact ⟨X, d, Y, rfl, rfl, rfl, l2, l1, by omega, HN⟩
        case measure => simp [intOf]; omega

/-- What Power answers. -/
noncomputable def powI (a e n : Int) : Int := open Classical in if restOk a n ∧ 0 ≤ e then (powOf a.toNat e.toNat n.toNat : Nat) else -1

theorem powI_ok {a e n : Int} (h : restOk a n) (k : 0 ≤ e) : powI a e n = (powOf a.toNat e.toNat n.toNat : Nat) := by
  unfold powI
  rw [if_pos ⟨h, k⟩]

theorem powI_no1 {a e n : Int} (h : ¬ restOk a n) : powI a e n = -1 := by
  unfold powI
  rw [if_neg (fun x => h x.1)]

theorem powI_no2 {a e n : Int} (h : ¬ 0 ≤ e) : powI a e n = -1 := by
  unfold powI
  rw [if_neg (fun x => h x.2)]

theorem cPower1 (a e n : Int) (pa pn pe : Addr) (w : World) (hE : e ≤ 9223372036854775807) (ha : w.cell? pa = some (.int .i64 a)) (hn : w.cell? pn = some (.int .i64 n)) (he : w.cell? pe = some (.int .i64 e)) :
    Calls Try.prog 62 #[.pointer (some pa), .pointer (some pn), .pointer (some pe)] w fun x w' => (x = .returned (.int .i64 (powI a e n)) ∨ x = refusal (powI a e n)) ∧ w' = w := by
  by_cases h1 : restOk a n
  · by_cases h2 : 0 ≤ e
    · rw [powI_ok h1 h2]
      have h1' := h1
      obtain ⟨⟨n1, n2⟩, a1, a2⟩ := h1'
      obtain ⟨A, rfl⟩ : ∃ A : Nat, a = A := ⟨a.toNat, by omega⟩
      obtain ⟨E, rfl⟩ : ∃ E : Nat, e = E := ⟨e.toNat, by omega⟩
      obtain ⟨N, rfl⟩ : ∃ N : Nat, n = N := ⟨n.toNat, by omega⟩
      simp only [Int.toNat_natCast]
      have C := fun w => cPowerOf A E N w (by omega) (by omega) (by omega) hE
      generalize powOf A E N = R at *
      have hd : decide ((0 : Int) ≤ (E : Int)) = true := by simp
      go_enter Try.func62, Try.ntmps62
      go_wp2_with fail
      refine (cNeedRest_ok A N (-1) _ h1).mono ?_
      rintro x w' ⟨rfl, rfl⟩
      go_wp2_with fail
      refine (cNeed_ok _ _).mono ?_
      rintro x w' ⟨rfl, rfl⟩
      go_wp2_with fail
      refine (C _).mono ?_
      rintro x w' ⟨rfl, rfl⟩
      go_wp2_with fail
      go_ret
      exact ⟨.inl rfl, rfl⟩
    · rw [powI_no2 h2]
      have hd : decide (0 ≤ e) = false := decide_eq_false h2
      go_enter Try.func62, Try.ntmps62
      go_wp2_with fail
      refine (cNeedRest_ok a n (-1) _ h1).mono ?_
      rintro x w' ⟨rfl, rfl⟩
      go_wp2_with fail
      refine (cNeed_no _ _).mono ?_
      rintro x w' ⟨rfl, rfl⟩
      exact ⟨rfl, .inr rfl, rfl⟩
  · rw [powI_no1 h1]
    go_enter Try.func62, Try.ntmps62
    go_wp2_with fail
    refine (cNeedRest_no a n (-1) _ h1).mono ?_
    rintro x w' ⟨rfl, rfl⟩
    exact ⟨rfl, .inr rfl, rfl⟩

theorem cPowerI (a e n : Int) (w : World) (hE : e ≤ 9223372036854775807) :
    Calls Try.prog 60 #[.int .i64 a, .int .i64 e, .int .i64 n] w fun x w' => x = .returned (.int .i64 (powI a e n)) ∧ Below w.heap.size w w' := by
  have hmf : ∀ (fn : Fn) (first cap : Array Value) (w : World), (Instr.makeFunc fn first cap).run Try.prog w = .ok (.func fn first cap) w := fun _ _ _ _ => rfl
  have H : Calls Try.prog 51 #[.func (.func 62) #[] #[.pointer (some ⟨w.heap.size, 0, none⟩), .pointer (some ⟨w.heap.size + 2, 0, none⟩), .pointer (some ⟨w.heap.size + 1, 0, none⟩)]] (box (box (box w a) e) n) fun x w' => x = .returned (.int .i64 (powI a e n)) ∧ Below w.heap.size w w' := by
    obtain ⟨ca, ce, cn, hb⟩ := boxes3 w a e n
    refine (cFace 62 _ (powI a e n) (box (box (box w a) e) n) (fun w => face_enters Try.func62 (by kernel_rfl) rfl _ w) ?_).mono ?_
    · refine (cPower1 a e n _ _ _ _ hE ca cn ce).mono ?_
      rintro x w' ⟨h, rfl⟩
      exact ⟨h, Below.refl _ _⟩
    · rintro x w' ⟨rfl, h⟩
      exact ⟨rfl, below2 hb h⟩
  generalize powI a e n = r at *
  go_enter Try.func60, Try.ntmps60
  go_wp2_with fail
  refine H.mono ?_
  rintro x w' ⟨rfl, h⟩
  go_wp2_with fail
  go_ret
  exact ⟨rfl, h⟩

end Go.Proofs.Ytfglgadmcgkjkaa
