/- Contracts of Public, KeyOk, Locked and Opened, of the program. Contracts of Public, KeyOk, Locked and Opened, of the specification: what the program answers. Contracts of the specification's l13By, SealedBy. What the program asks of a seal's attrs and of its parent is what the document says (mathematics alone). -/
import Derived.Test.YtnbpcgeojmikoaaGreatDoorM19
import Derived.Test.YtnbpcgeojmikoaaGreatDoorM13
import Derived.Test.YtnbpcgeojmikoaaGreatDoorM16
import Derived.Test.YtnbpcgeojmikoaaGreatDoorM17
import Derived.Test.YtnbpcgeojmikoaaGreatDoorM18
namespace Go.Proofs.YtnbpcgeojmikoaaGreatDoor
open Go.RowKit
set_option linter.unusedVariables false
set_option linter.unusedSimpArgs false

/-- What Public tells: the modulus, and the power. -/
def pubN (n e : Int) : Int := if opB n e = true then n else 0

def pubE (n e : Int) : Int := if opB n e = true then e else 0

/-- What Locked tells. -/
noncomputable def lockI (n e d h : Int) : Int := if lkB n e d = true then powI h d n else -1

/-- What Opened tells. -/
noncomputable def openI (n e d v : Int) : Int := if okB n e d = true then powI v e n else -1

theorem k_bb {w a b : World} (h : Below w.heap.size w a) (k : Below a.heap.size a b) : Below w.heap.size w b := h.trans (k.mono h.size)

set_option maxHeartbeats 1000000 in
theorem cLockedI (n e d h : Int) (w : World) (hd : d ≤ 9223372036854775807) :
    Calls Tryz.prog 305 #[.agg #[.int .i64 n, .int .i64 e, .int .i64 d], .int .i64 h] w fun x w' => x = .returned (.int .i64 (lockI n e d h)) ∧ Below w.heap.size w w' := by
  have CW := fun w => cWholeOf n e d w
  have CL := fun w => cLocks n e d w
  have CR := fun w => cRaised n e h d w hd
  by_cases k : lkB n e d = true
  · rw [show lockI n e d h = powI h d n by unfold lockI; rw [if_pos k]]
    rw [k] at CL
    generalize powI h d n = r at *
    go_enter Tryz.func305, Tryz.ntmps305
    go_wp2_with fail
    refine (CW _).mono ?_
    rintro x w1 ⟨rfl, hb⟩
    obtain ⟨hc, hf⟩ := k_bcell hb
    have HB : Hid (Below w.heap.size w w1) := ((Below.refl _ _).alloc (Nat.le_refl _) _).trans (hb.mono (by simp))
    have hz0 : w.heap.size < w1.heap.size := by have := hb.size; simp at this; omega
    go_wp2_with fail
    refine (CL _).mono ?_
    rintro x w2 ⟨rfl, hb2⟩
    obtain ⟨hc2, hf2⟩ := k_bcell hb2
    have HB2 : Hid (Below w.heap.size w w2) := k_bb (HB.out.alloc HB.out.size _) hb2
    have hy : w1.heap.size < w2.heap.size := by have := hb2.size; simp at this; omega
    go_wp2_with fail
    refine (CR _).mono ?_
    rintro x w3 ⟨rfl, hb3⟩
    go_wp2_with fail
    go_ret
    exact ⟨rfl, k_bb HB2.out hb3⟩
  · rw [show lockI n e d h = -1 by unfold lockI; rw [if_neg k]]
    have k : lkB n e d = false := by simpa using k
    rw [k] at CL
    go_enter Tryz.func305, Tryz.ntmps305
    go_wp2_with fail
    refine (CW _).mono ?_
    rintro x w1 ⟨rfl, hb⟩
    obtain ⟨hc, hf⟩ := k_bcell hb
    have HB : Hid (Below w.heap.size w w1) := ((Below.refl _ _).alloc (Nat.le_refl _) _).trans (hb.mono (by simp))
    have hz0 : w.heap.size < w1.heap.size := by have := hb.size; simp at this; omega
    go_wp2_with fail
    refine (CL _).mono ?_
    rintro x w2 ⟨rfl, hb2⟩
    have HB2 : Hid (Below w.heap.size w w2) := k_bb (HB.out.alloc HB.out.size _) hb2
    go_wp2_with fail
    go_ret
    exact ⟨rfl, HB2.out⟩

set_option maxHeartbeats 1000000 in
theorem cOpenedI (n e d v : Int) (w : World) (he : e ≤ 9223372036854775807) :
    Calls Tryz.prog 293 #[.agg #[.int .i64 n, .int .i64 e, .int .i64 d], .int .i64 v] w fun x w' => x = .returned (.int .i64 (openI n e d v)) ∧ Below w.heap.size w w' := by
  have CW := fun w => cWholeOf n e d w
  have CL := fun w => cOk n e d w
  have CR := fun w => cRaised n e v e w he
  by_cases k : okB n e d = true
  · rw [show openI n e d v = powI v e n by unfold openI; rw [if_pos k]]
    rw [k] at CL
    generalize powI v e n = r at *
    go_enter Tryz.func293, Tryz.ntmps293
    go_wp2_with fail
    refine (CW _).mono ?_
    rintro x w1 ⟨rfl, hb⟩
    obtain ⟨hc, hf⟩ := k_bcell hb
    have HB : Hid (Below w.heap.size w w1) := ((Below.refl _ _).alloc (Nat.le_refl _) _).trans (hb.mono (by simp))
    have hz0 : w.heap.size < w1.heap.size := by have := hb.size; simp at this; omega
    go_wp2_with fail
    refine (CL _).mono ?_
    rintro x w2 ⟨rfl, hb2⟩
    obtain ⟨hc2, hf2⟩ := k_bcell hb2
    have HB2 : Hid (Below w.heap.size w w2) := k_bb (HB.out.alloc HB.out.size _) hb2
    have hy : w1.heap.size < w2.heap.size := by have := hb2.size; simp at this; omega
    go_wp2_with fail
    refine (CR _).mono ?_
    rintro x w3 ⟨rfl, hb3⟩
    go_wp2_with fail
    go_ret
    exact ⟨rfl, k_bb HB2.out hb3⟩
  · rw [show openI n e d v = -1 by unfold openI; rw [if_neg k]]
    have k : okB n e d = false := by simpa using k
    rw [k] at CL
    go_enter Tryz.func293, Tryz.ntmps293
    go_wp2_with fail
    refine (CW _).mono ?_
    rintro x w1 ⟨rfl, hb⟩
    obtain ⟨hc, hf⟩ := k_bcell hb
    have HB : Hid (Below w.heap.size w w1) := ((Below.refl _ _).alloc (Nat.le_refl _) _).trans (hb.mono (by simp))
    have hz0 : w.heap.size < w1.heap.size := by have := hb.size; simp at this; omega
    go_wp2_with fail
    refine (CL _).mono ?_
    rintro x w2 ⟨rfl, hb2⟩
    have HB2 : Hid (Below w.heap.size w w2) := k_bb (HB.out.alloc HB.out.size _) hb2
    go_wp2_with fail
    go_ret
    exact ⟨rfl, HB2.out⟩

end Go.Proofs.YtnbpcgeojmikoaaGreatDoor

namespace Go.Proofs.YtnbpcgeojmikoaaGreatDoor
open Go.RowKit
set_option linter.unusedVariables false
set_option linter.unusedSimpArgs false

set_option maxHeartbeats 1000000 in
theorem cPubB (n e d : Int) (w : World) :
    Calls Tryz.prog 109 #[.agg #[.int .i64 n, .int .i64 e, .int .i64 d]] w fun x w' => x = .returned (.bool (opB n e)) ∧ Below w.heap.size w w' := by
  have C1 := fun w => cIn5 n 2147483648 3000000000 w
  by_cases hr : 2147483648 ≤ n ∧ n ≤ 3000000000
  · rw [dec_t hr] at C1
    have C2 := fun w => cIn5 e 3 (n - 1) w
    obtain ⟨B, hB⟩ : ∃ B, opB n e = B := ⟨_, rfl⟩
    have hq : decide (3 ≤ e ∧ e ≤ n - 1) = B := by
      rw [← hB]; unfold opB
      rw [Bool.eq_iff_iff]; simp [hr]; omega
    rw [hq] at C2
    rw [hB]
    have e1 : wrap64 (n - 1) = n - 1 := IntWalk.wrap64_in _ (by omega)
    have e2 : IntKind.i64.wrap (n - 1) = n - 1 := IntWalk.i64_in _ (by omega)
    clear hq hB
    go_enter Tryz.func109, Tryz.ntmps109
    go_wp2_with fail
    refine (C1 _).mono ?_
    rintro x w1 ⟨rfl, rfl⟩
    go_wp2_with fail
    refine (C2 _).mono ?_
    rintro x w1 ⟨rfl, rfl⟩
    go_wp2_with fail
    go_ret
    exact ⟨rfl, (Below.refl _ _).alloc (Nat.le_refl _) _⟩
  · rw [dec_f hr] at C1
    rw [show opB n e = false from dec_f (fun x => hr x.1)]
    clear hr
    go_enter Tryz.func109, Tryz.ntmps109
    go_wp2_with fail
    refine (C1 _).mono ?_
    rintro x w1 ⟨rfl, rfl⟩
    go_wp2_with fail
    go_ret
    exact ⟨rfl, (Below.refl _ _).alloc (Nat.le_refl _) _⟩

set_option maxHeartbeats 1000000 in
theorem cKeyOkS (n e d : Int) (w : World) :
    Calls Tryz.prog 53 #[.agg #[.int .i64 n, .int .i64 e, .int .i64 d]] w fun x w' => x = .returned (.bool (okB n e d)) ∧ Below w.heap.size w w' := by
  have C1 := fun w => cPubB n e d w
  by_cases h : opB n e = true
  · have h' : (2147483648 ≤ n ∧ n ≤ 3000000000) ∧ 3 ≤ e ∧ e < n := of_decide_eq_true h
    rw [h] at C1
    by_cases hd : d = 0
    · rw [show okB n e d = true from dec_t ⟨h', .inl hd⟩]
      have he : (d == 0) = true := by simpa using hd
      clear hd h h'
      go_enter Tryz.func53, Tryz.ntmps53
      go_wp2_with fail
      refine (C1 _).mono ?_
      rintro x w1 ⟨rfl, hb⟩
      obtain ⟨hc, hf⟩ := k_bcell hb
      go_wp2_with fail
      go_ret
      exact ⟨rfl, ((Below.refl _ _).alloc (Nat.le_refl _) _).trans (hb.mono (by simp))⟩
    · have C2 := fun w => cIn5 d 3 (n - 1) w
      obtain ⟨B, hB⟩ : ∃ B, okB n e d = B := ⟨_, rfl⟩
      have hq : decide (3 ≤ d ∧ d ≤ n - 1) = B := by
        rw [← hB]; unfold okB
        rw [Bool.eq_iff_iff]; simp [h', hd]; omega
      rw [hq] at C2
      rw [hB]
      have e1 : wrap64 (n - 1) = n - 1 := IntWalk.wrap64_in _ (by omega)
      have e2 : IntKind.i64.wrap (n - 1) = n - 1 := IntWalk.i64_in _ (by omega)
      have he : (d == 0) = false := by simpa using hd
      clear hd hq hB h h'
      go_enter Tryz.func53, Tryz.ntmps53
      go_wp2_with fail
      refine (C1 _).mono ?_
      rintro x w1 ⟨rfl, hb⟩
      obtain ⟨hc, hf⟩ := k_bcell hb
      have HB : Hid (Below w.heap.size w w1) := ((Below.refl _ _).alloc (Nat.le_refl _) _).trans (hb.mono (by simp))
      go_wp2_with fail
      refine (C2 _).mono ?_
      rintro x w2 ⟨rfl, rfl⟩
      go_wp2_with fail
      go_ret
      exact ⟨rfl, HB.out⟩
  · have h : opB n e = false := by simpa using h
    have h' : ¬ ((2147483648 ≤ n ∧ n ≤ 3000000000) ∧ 3 ≤ e ∧ e < n) := of_decide_eq_false h
    rw [h] at C1
    rw [show okB n e d = false from dec_f (fun x => h' x.1)]
    clear h h'
    go_enter Tryz.func53, Tryz.ntmps53
    go_wp2_with fail
    refine (C1 _).mono ?_
    rintro x w1 ⟨rfl, hb⟩
    go_wp2_with fail
    go_ret
    exact ⟨rfl, ((Below.refl _ _).alloc (Nat.le_refl _) _).trans (hb.mono (by simp))⟩

theorem lk_ok (n e d : Int) : lkB n e d = (okB n e d && !(d == 0)) := by
  unfold lkB okB
  rw [Bool.eq_iff_iff]
  simp
  omega

set_option maxHeartbeats 1000000 in
theorem cLockedS (n e d h : Int) (w : World) (hd : d ≤ 9223372036854775807) :
    Calls Tryz.prog 56 #[.agg #[.int .i64 n, .int .i64 e, .int .i64 d], .int .i64 h] w fun x w' => x = .returned (.int .i64 (lockI n e d h)) ∧ Below w.heap.size w w' := by
  have CK := fun w => cKeyOkS n e d w
  by_cases k : okB n e d = true
  · have k' : ((2147483648 ≤ n ∧ n ≤ 3000000000) ∧ 3 ≤ e ∧ e < n) ∧ (d = 0 ∨ 3 ≤ d ∧ d < n) := of_decide_eq_true k
    rw [k] at CK
    by_cases h0 : d = 0
    · have hl : lockI n e d h = -1 := by unfold lockI; rw [lk_ok, h0]; simp
      rw [hl]
      have he : (d == 0) = true := by simpa using h0
      clear k k' h0 hl
      go_enter Tryz.func56, Tryz.ntmps56
      go_wp2_with fail
      refine (CK _).mono ?_
      rintro x w1 ⟨rfl, hb⟩
      obtain ⟨hc, hf⟩ := k_bcell hb
      go_wp2_with fail
      go_ret
      exact ⟨rfl, ((Below.refl _ _).alloc (Nat.le_refl _) _).trans (hb.mono (by simp))⟩
    · have he : (d == 0) = false := by simpa using h0
      have hl : lockI n e d h = powI h d n := by unfold lockI; rw [lk_ok, he, k]; rfl
      rw [hl]
      have e1 : wrap64 (n - 1) = n - 1 := IntWalk.wrap64_in _ (by omega)
      have e2 : IntKind.i64.wrap (n - 1) = n - 1 := IntWalk.i64_in _ (by omega)
      have C2 := fun w => cIn5 h 0 (n - 1) w
      by_cases hh : 0 ≤ h ∧ h ≤ n - 1
      · rw [dec_t hh] at C2
        have hp : powI h d n = (powOf h.toNat d.toNat n.toNat : Nat) := powI_ok ⟨⟨by omega, by omega⟩, by omega, by omega⟩ (by omega)
        rw [hp]
        have hd3 : 3 ≤ d ∧ d < n := by omega
        obtain ⟨H, rfl⟩ : ∃ A : Nat, h = A := ⟨h.toNat, by omega⟩
        obtain ⟨D, rfl⟩ : ∃ A : Nat, d = A := ⟨d.toNat, by omega⟩
        obtain ⟨N, rfl⟩ : ∃ A : Nat, n = A := ⟨n.toNat, by omega⟩
        simp only [Int.toNat_natCast]
        have CP := fun w => cPowerL H D N w (by omega) (by omega) (by omega) hd
        generalize powOf H D N = R at *
        clear k hl hp
        go_enter Tryz.func56, Tryz.ntmps56
        go_wp2_with fail
        refine (CK _).mono ?_
        rintro x w1 ⟨rfl, hb⟩
        obtain ⟨hc, hf⟩ := k_bcell hb
        have HB : Hid (Below w.heap.size w w1) := ((Below.refl _ _).alloc (Nat.le_refl _) _).trans (hb.mono (by simp))
        go_wp2_with fail
        refine (C2 _).mono ?_
        rintro x w2 ⟨rfl, rfl⟩
        go_wp2_with fail
        refine (CP _).mono ?_
        rintro x w3 ⟨rfl, rfl⟩
        go_wp2_with fail
        go_ret
        exact ⟨rfl, HB.out⟩
      · rw [dec_f hh] at C2
        have hp : powI h d n = -1 := powI_no1 (fun x => hh ⟨x.2.1, by have := x.2.2; omega⟩)
        rw [hp]
        clear k hl hp hh k' h0
        go_enter Tryz.func56, Tryz.ntmps56
        go_wp2_with fail
        refine (CK _).mono ?_
        rintro x w1 ⟨rfl, hb⟩
        obtain ⟨hc, hf⟩ := k_bcell hb
        have HB : Hid (Below w.heap.size w w1) := ((Below.refl _ _).alloc (Nat.le_refl _) _).trans (hb.mono (by simp))
        go_wp2_with fail
        refine (C2 _).mono ?_
        rintro x w2 ⟨rfl, rfl⟩
        go_wp2_with fail
        go_ret
        exact ⟨rfl, HB.out⟩
  · have k : okB n e d = false := by simpa using k
    rw [k] at CK
    have hl : lockI n e d h = -1 := by unfold lockI; rw [lk_ok, k]; simp
    rw [hl]
    clear k hl
    go_enter Tryz.func56, Tryz.ntmps56
    go_wp2_with fail
    refine (CK _).mono ?_
    rintro x w1 ⟨rfl, hb⟩
    go_wp2_with fail
    go_ret
    exact ⟨rfl, ((Below.refl _ _).alloc (Nat.le_refl _) _).trans (hb.mono (by simp))⟩

set_option maxHeartbeats 1000000 in
theorem cOpenedS (n e d h : Int) (w : World) (hE : e ≤ 9223372036854775807) :
    Calls Tryz.prog 91 #[.agg #[.int .i64 n, .int .i64 e, .int .i64 d], .int .i64 h] w fun x w' => x = .returned (.int .i64 (openI n e d h)) ∧ Below w.heap.size w w' := by
  have CK := fun w => cKeyOkS n e d w
  by_cases k : okB n e d = true
  · have k' : ((2147483648 ≤ n ∧ n ≤ 3000000000) ∧ 3 ≤ e ∧ e < n) ∧ (d = 0 ∨ 3 ≤ d ∧ d < n) := of_decide_eq_true k
    have hl : openI n e d h = powI h e n := by unfold openI; rw [k]; rfl
    rw [hl]
    rw [k] at CK
    have e1 : wrap64 (n - 1) = n - 1 := IntWalk.wrap64_in _ (by omega)
    have e2 : IntKind.i64.wrap (n - 1) = n - 1 := IntWalk.i64_in _ (by omega)
    have C2 := fun w => cIn5 h 0 (n - 1) w
    by_cases hh : 0 ≤ h ∧ h ≤ n - 1
    · rw [dec_t hh] at C2
      have hp : powI h e n = (powOf h.toNat e.toNat n.toNat : Nat) := powI_ok ⟨⟨by omega, by omega⟩, by omega, by omega⟩ (by omega)
      rw [hp]
      obtain ⟨H, rfl⟩ : ∃ A : Nat, h = A := ⟨h.toNat, by omega⟩
      obtain ⟨E, rfl⟩ : ∃ A : Nat, e = A := ⟨e.toNat, by omega⟩
      obtain ⟨N, rfl⟩ : ∃ A : Nat, n = A := ⟨n.toNat, by omega⟩
      simp only [Int.toNat_natCast]
      have CP := fun w => cPowerL H E N w (by omega) (by omega) (by omega) hE
      generalize powOf H E N = R at *
      clear k hl hp k'
      go_enter Tryz.func91, Tryz.ntmps91
      go_wp2_with fail
      refine (CK _).mono ?_
      rintro x w1 ⟨rfl, hb⟩
      obtain ⟨hc, hf⟩ := k_bcell hb
      have HB : Hid (Below w.heap.size w w1) := ((Below.refl _ _).alloc (Nat.le_refl _) _).trans (hb.mono (by simp))
      go_wp2_with fail
      refine (C2 _).mono ?_
      rintro x w2 ⟨rfl, rfl⟩
      go_wp2_with fail
      refine (CP _).mono ?_
      rintro x w3 ⟨rfl, rfl⟩
      go_wp2_with fail
      go_ret
      exact ⟨rfl, HB.out⟩
    · rw [dec_f hh] at C2
      have hp : powI h e n = -1 := powI_no1 (fun x => hh ⟨x.2.1, by have := x.2.2; omega⟩)
      rw [hp]
      clear k hl hp hh k'
      go_enter Tryz.func91, Tryz.ntmps91
      go_wp2_with fail
      refine (CK _).mono ?_
      rintro x w1 ⟨rfl, hb⟩
      obtain ⟨hc, hf⟩ := k_bcell hb
      have HB : Hid (Below w.heap.size w w1) := ((Below.refl _ _).alloc (Nat.le_refl _) _).trans (hb.mono (by simp))
      go_wp2_with fail
      refine (C2 _).mono ?_
      rintro x w2 ⟨rfl, rfl⟩
      go_wp2_with fail
      go_ret
      exact ⟨rfl, HB.out⟩
  · have k : okB n e d = false := by simpa using k
    rw [k] at CK
    have hl : openI n e d h = -1 := by unfold openI; rw [k]; simp
    rw [hl]
    clear k hl
    go_enter Tryz.func91, Tryz.ntmps91
    go_wp2_with fail
    refine (CK _).mono ?_
    rintro x w1 ⟨rfl, hb⟩
    go_wp2_with fail
    go_ret
    exact ⟨rfl, ((Below.refl _ _).alloc (Nat.le_refl _) _).trans (hb.mono (by simp))⟩

end Go.Proofs.YtnbpcgeojmikoaaGreatDoor

namespace Go.Proofs.YtnbpcgeojmikoaaGreatDoor
open Go.RowKit
set_option linter.unusedVariables false
set_option linter.unusedSimpArgs false

theorem canon_few {ts : List Tk} (hT : TreeP ts) (hz : TksSz 1048576 ts) (but : Int) (f k : Nat) (sd : List At) (hk : k < ts.length) : (canonN ts but f k sd).size ≤ 4000000000 := by
  have h1 := canon_size hT hz but f k sd hk
  have h2 := (endN_le hk).2
  have h50 : ts.length ≤ 50 := hT.2.1
  have h3 : 70000000 * (endN ts k - k) ≤ 70000000 * 50 := Nat.mul_le_mul_left _ (by omega)
  omega

/-- The sum of what is sealed: of an element without one of its kids. -/
noncomputable def sumN (ts : List Tk) (p : Nat) (but : Int) : ByteArray := ⟨(dgL ((hsL (canonN ts but ts.length p []).data.toList : Nat) : Int)).toArray⟩

noncomputable def byN (ts : List Tk) (k : Nat) (n e d : Int) : Bool := open Classical in
  sealN ts k && refersN ts k && decide (sumF (atsJ ts k) = sumN ts (parI ts k).toNat (k : Int)) && decide (openI n e d (sgnF (atsJ ts k)) = ((hsL (spokenF (refF (atsJ ts k)) (sumF (atsJ ts k))).data.toList : Nat) : Int))

theorem spoken_size (r s : ByteArray) : (spokenF r s).size = 4 + r.size + 5 + s.size := by
  unfold spokenF
  rw [ByteArray.size_append, ByteArray.size_append, ByteArray.size_append]
  rfl

theorem box_key (w : World) (x y z : Value) (T : TypeId) : (w.alloc (.cells #[x, y, z] T)).cell? ⟨w.heap.size, 0, none⟩ = some x ∧ (w.alloc (.cells #[x, y, z] T)).cell? ⟨w.heap.size, 1, none⟩ = some y ∧ (w.alloc (.cells #[x, y, z] T)).cell? ⟨w.heap.size, 2, none⟩ = some z ∧ w.heap.size < (w.alloc (.cells #[x, y, z] T)).heap.size := by
  refine ⟨?_, ?_, ?_, by simp⟩
  · rw [Lib.cell_of_heap (heap_alloc_new w _)]; rfl
  · rw [Lib.cell_of_heap (heap_alloc_new w _)]; rfl
  · rw [Lib.cell_of_heap (heap_alloc_new w _)]; rfl

theorem seal_up {ts : List Tk} {k : Nat} (h : refersN ts k = true) : 0 ≤ parI ts k := by
  unfold refersN at h
  rw [Bool.and_eq_true] at h
  exact of_decide_eq_true h.1

set_option maxRecDepth 4000 in
set_option maxHeartbeats 8000000 in
theorem c_spec_l13By (a : Option Addr) (cap : Nat) (ts : List Tk) (k : Nat) (kn ke kd : Int) (w : World) (hR : TkRow w a ts) (hT : TreeP ts) (hk : k < ts.length) (hn : ts.length ≤ 1048576) (hz : TksSz 1048576 ts) (hE : ke ≤ 9223372036854775807) :
    Calls Tryz.prog 34 #[.slice a ts.length cap, .int .i64 (k : Int), .agg #[.int .i64 kn, .int .i64 ke, .int .i64 kd]] w fun e w' => e = .returned (.bool (byN ts k kn ke kd)) ∧ Below w.heap.size w w' := by
  have CS := hid (fun wx (hb : Below w.heap.size w wx) => c_spec_l13Seal a cap ts k wx (hR.below hb) hT hk hn hz)
  have CR := hid (fun wx (hb : Below w.heap.size w wx) => c_spec_l13Refers a cap ts k wx (hR.below hb) hT hk hn hz)
  have HBA := hid ((Below.refl w.heap.size w).alloc (Nat.le_refl _) (.cells #[.int .i64 kn, .int .i64 ke, .int .i64 kd] 26))
  have hkn : (k : Int) < (ts.length : Int) := by omega
  cases hs : sealN ts k with
  | false =>
    have HE := hid (show byN ts k kn ke kd = false by unfold byN; rw [hs]; rfl)
    rw [HE.out]
    rw [hs] at CS
    clear hR hT hz HE hs CR
    generalize ts.length = n at *
    go_enter Tryz.func34, Tryz.ntmps34
    go_wp2_with fail
    refine (CS.out _ HBA.out).mono ?_
    rintro e w1 ⟨rfl, hb1⟩
    have HB1 := hid (bb HBA.out hb1)
    clear hb1 CS HBA
    go_wp2_with fail
    go_ret
    exact ⟨rfl, HB1.out⟩
  | true =>
    rw [hs] at CS
    cases hr : refersN ts k with
    | false =>
      have HE := hid (show byN ts k kn ke kd = false by unfold byN; rw [hs, hr]; rfl)
      rw [HE.out]
      rw [hr] at CR
      clear hR hT hz HE hs hr
      generalize ts.length = n at *
      go_enter Tryz.func34, Tryz.ntmps34
      go_wp2_with fail
      refine (CS.out _ HBA.out).mono ?_
      rintro e w1 ⟨rfl, hb1⟩
      have HB1 := hid (bb HBA.out hb1)
      clear hb1 CS HBA
      go_wp2_with fail
      refine (CR.out _ HB1.out).mono ?_
      rintro e w2 ⟨rfl, rfl⟩
      clear CR
      go_wp2_with fail
      go_ret
      exact ⟨rfl, HB1.out⟩
    | true =>
      rw [hr] at CR
      obtain ⟨p, hp⟩ : ∃ p : Nat, parI ts k = p := ⟨(parI ts k).toNat, by have := seal_up hr; omega⟩
      have hpk := up_lt hT hk hp
      have hpl : p < ts.length := by omega
      have HE := hid (show byN ts k kn ke kd = (open Classical in (decide (sumF (atsJ ts k) = sumN ts p (k : Int)) && decide (openI kn ke kd (sgnF (atsJ ts k)) = ((hsL (spokenF (refF (atsJ ts k)) (sumF (atsJ ts k))).data.toList : Nat) : Int)))) by unfold byN; rw [hs, hr, hp]; rfl)
      rw [HE.out]
      have CY := hid (fun wx (hb : Below w.heap.size w wx) => c_spec_l13Says a cap ts k wx (hR.below hb) hk hn hz)
      have CC := hid (fun wx (hb : Below w.heap.size w wx) => c_spec_l11Canon a cap ts (k : Int) hT hz ts.length p [] none 0 wx (hR.below hb) hpl (by omega) (fun j hj => absurd hj (Nat.not_lt_zero _)) (Nat.zero_le _))
      have CH := hid (fun wx => cHashSW (canonN ts (k : Int) ts.length p []) wx (canon_few hT hz _ _ _ _ hpl))
      have CD := hid (fun wx => cDigS ((hsL (canonN ts (k : Int) ts.length p []).data.toList : Nat) : Int) wx)
      have CO := hid (fun wx => cOpenedS kn ke kd (sgnF (atsJ ts k)) wx hE)
      have hz1 := val_sz (ats_sz hz hk) refS
      have hz2 := val_sz (ats_sz hz hk) sumS
      have CP := hid (fun wx => cSpokenS (refF (atsJ ts k)) (sumF (atsJ ts k)) wx hz1 hz2)
      have CQ := hid (fun wx => cHashSW (spokenF (refF (atsJ ts k)) (sumF (atsJ ts k))) wx (by rw [spoken_size]; unfold refF sumF; omega))
      obtain ⟨b, o, ea, c0, -⟩ := hR.kindAt k hk
      have hb0 : b < w.heap.size := by
        obtain ⟨b', o', _, _, e', h', _⟩ := hR k hk
        rw [ea] at e'
        cases e'
        exact h'
      rw [hp] at c0
      subst ea
      have HC0 := hid (fun wx (hb : Below w.heap.size w wx) => (hb.cell (p := ⟨b, o + k * 4, none⟩) hb0).trans c0)
      have hE1 := str_beq (sumF (atsJ ts k)) (sumN ts p (k : Int))
      unfold sumN at hE1 ⊢
      clear hR hT hz HE hs hr hp hz1 hz2 c0 hE
      generalize canonN ts (k : Int) ts.length p [] = CT at *
      generalize hsL CT.data.toList = H1 at *
      generalize (⟨(dgL ((H1 : Nat) : Int)).toArray⟩ : ByteArray) = DT at *
      generalize refF (atsJ ts k) = R at *
      generalize sumF (atsJ ts k) = S at *
      generalize openI kn ke kd (sgnF (atsJ ts k)) = O at *
      generalize sgnF (atsJ ts k) = G at *
      generalize spokenF R S = SP at *
      generalize hsL SP.data.toList = H2 at *
      have hE2 : (O == ((H2 : Nat) : Int)) = decide (O = ((H2 : Nat) : Int)) := by
        by_cases q : O = ((H2 : Nat) : Int)
        · rw [decide_eq_true q]; simp [q]
        · rw [decide_eq_false q]; simp [q]
      have HBX := hid (box_key w (.int .i64 kn) (.int .i64 ke) (.int .i64 kd) 26)
      obtain ⟨V, hV⟩ : ∃ V, (open Classical in (decide (S = DT) && decide (O = ((H2 : Nat) : Int)))) = V := ⟨_, rfl⟩
      have HV := hid hV
      rw [hV]
      clear hV
      generalize ts.length = n at *
      go_enter Tryz.func34, Tryz.ntmps34
      go_wp2_with fail
      refine (CS.out _ HBA.out).mono ?_
      rintro e w1 ⟨rfl, hb1⟩
      have HB1 := hid (bb HBA.out hb1)
      have HA1 := hid hb1
      clear hb1 CS
      go_wp2_with fail
      refine (CR.out _ HB1.out).mono ?_
      rintro e w2 ⟨rfl, rfl⟩
      clear CR
      go_wp2_with fail
      refine (CY.out _ HB1.out).mono ?_
      rintro e w2 ⟨rfl, rfl⟩
      clear CY
      have c1 := HC0.out _ HB1.out
      go_wp2_with fail
      refine (CC.out _ HB1.out).mono ?_
      rintro e w2 ⟨rfl, hb2⟩
      have HB2 := hid (bb HB1.out hb2)
      have HA2 := hid (bb HA1.out hb2)
      clear hb2 CC HB1 HA1 c1 HC0
      go_wp2_with fail
      refine (CH.out _).mono ?_
      rintro e w3 ⟨rfl, rfl⟩
      clear CH
      go_wp2_with fail
      refine (CD.out _).mono ?_
      rintro e w3 ⟨rfl, hb3⟩
      have HB3 := hid (bb HB2.out hb3)
      have HA3 := hid (bb HA2.out hb3)
      clear hb3 CD HB2 HA2
      by_cases q : S = DT
      · rw [decide_eq_true q] at hE1
        have HX := hid (show V = decide (O = ((H2 : Nat) : Int)) by rw [← HV.out]; simp [q])
        clear HV q
        have d0 := (HA3.out.cell (p := ⟨w.heap.size, 0, none⟩) HBX.out.2.2.2).trans HBX.out.1
        have d1 := (HA3.out.cell (p := ⟨w.heap.size, 1, none⟩) HBX.out.2.2.2).trans HBX.out.2.1
        have d2 := (HA3.out.cell (p := ⟨w.heap.size, 2, none⟩) HBX.out.2.2.2).trans HBX.out.2.2.1
        clear HBX HBA HA3
        generalize decide (O = ((H2 : Nat) : Int)) = Y at *
        go_wp2_with fail
        refine (CO.out _).mono ?_
        rintro e w4 ⟨rfl, hb4⟩
        have HB4 := hid (bb HB3.out hb4)
        clear hb4 CO HB3 d0 d1 d2
        go_wp2_with fail
        refine (CP.out _).mono ?_
        rintro e w5 ⟨rfl, rfl⟩
        clear CP
        go_wp2_with fail
        refine (CQ.out _).mono ?_
        rintro e w5 ⟨rfl, rfl⟩
        clear CQ
        go_wp2_with fail
        go_ret
        exact ⟨by rw [HX.out]; rfl, HB4.out⟩
      · rw [decide_eq_false q] at hE1
        have HX := hid (show V = false by rw [← HV.out]; simp [q])
        clear HV q
        go_wp2_with fail
        go_ret
        exact ⟨by rw [HX.out]; rfl, HB3.out⟩

/-- Sealed by a key. -/
noncomputable def byI (ts : List Tk) (x n e d : Int) : Bool := namesB ts && idsB ts && decide (0 ≤ x ∧ x < ts.length) && byN ts x.toNat n e d

set_option maxHeartbeats 8000000 in
theorem cSealedByS (a : Option Addr) (cap : Nat) (ts : List Tk) (x kn ke kd : Int) (w : World) (hR : TkRow w a ts) (hn : ts.length ≤ 1048576) (hz : TksSz 1048576 ts) (hE : ke ≤ 9223372036854775807) :
    Calls Tryz.prog 9 #[.slice a ts.length cap, .int .i64 x, .agg #[.int .i64 kn, .int .i64 ke, .int .i64 kd]] w fun e w' => e = .returned (.bool (byI ts x kn ke kd)) ∧ Below w.heap.size w w' := by
  have HBA := hid ((Below.refl w.heap.size w).alloc (Nat.le_refl _) (.cells #[.int .i64 kn, .int .i64 ke, .int .i64 kd] 26))
  have CN := hid (fun wx (hb : Below w.heap.size w wx) => cNamesOkS a cap ts wx (hR.below hb) hn hz)
  have CI := hid (fun wx (hb : Below w.heap.size w wx) => cIdsOkS a cap ts wx (hR.below hb) hn hz)
  cases h1 : namesB ts with
  | false =>
    have HE := hid (show byI ts x kn ke kd = false by unfold byI; rw [h1]; rfl)
    rw [HE.out]
    rw [h1] at CN
    clear hR hz HE h1 CI
    generalize ts.length = n at *
    go_enter Tryz.func9, Tryz.ntmps9
    go_wp2_with fail
    refine (CN.out _ HBA.out).mono ?_
    rintro e w1 ⟨rfl, hb1⟩
    have HB1 := hid (bb HBA.out hb1)
    clear hb1 CN HBA
    go_wp2_with fail
    go_ret
    exact ⟨rfl, HB1.out⟩
  | true =>
    rw [h1] at CN
    cases h2 : idsB ts with
    | false =>
      have HE := hid (show byI ts x kn ke kd = false by unfold byI; rw [h1, h2]; rfl)
      rw [HE.out]
      rw [h2] at CI
      clear hR hz HE h1 h2
      generalize ts.length = n at *
      go_enter Tryz.func9, Tryz.ntmps9
      go_wp2_with fail
      refine (CN.out _ HBA.out).mono ?_
      rintro e w1 ⟨rfl, hb1⟩
      have HB1 := hid (bb HBA.out hb1)
      clear hb1 CN HBA
      go_wp2_with fail
      refine (CI.out _ HB1.out).mono ?_
      rintro e w2 ⟨rfl, hb2⟩
      have HB2 := hid (bb HB1.out hb2)
      clear hb2 CI HB1
      go_wp2_with fail
      go_ret
      exact ⟨rfl, HB2.out⟩
    | true =>
      rw [h2] at CI
      by_cases hx : 0 ≤ x ∧ x < ts.length
      case neg =>
        have HE := hid (show byI ts x kn ke kd = false by unfold byI; rw [h1, h2, decide_eq_false hx]; rfl)
        rw [HE.out]
        clear hR hz HE h1 h2
        generalize ts.length = n at *
        by_cases h0 : 0 ≤ x
        · have e0 : decide (0 ≤ x) = true := decide_eq_true h0
          have e1 : decide (x < (n : Int)) = false := decide_eq_false (fun h => hx ⟨h0, h⟩)
          clear hx h0
          go_enter Tryz.func9, Tryz.ntmps9
          go_wp2_with fail
          refine (CN.out _ HBA.out).mono ?_
          rintro e w1 ⟨rfl, hb1⟩
          have HB1 := hid (bb HBA.out hb1)
          clear hb1 CN HBA
          go_wp2_with fail
          refine (CI.out _ HB1.out).mono ?_
          rintro e w2 ⟨rfl, hb2⟩
          have HB2 := hid (bb HB1.out hb2)
          clear hb2 CI HB1
          go_wp2_with fail
          go_ret
          exact ⟨rfl, HB2.out⟩
        · have e0 : decide (0 ≤ x) = false := decide_eq_false h0
          clear hx h0
          go_enter Tryz.func9, Tryz.ntmps9
          go_wp2_with fail
          refine (CN.out _ HBA.out).mono ?_
          rintro e w1 ⟨rfl, hb1⟩
          have HB1 := hid (bb HBA.out hb1)
          clear hb1 CN HBA
          go_wp2_with fail
          refine (CI.out _ HB1.out).mono ?_
          rintro e w2 ⟨rfl, hb2⟩
          have HB2 := hid (bb HB1.out hb2)
          clear hb2 CI HB1
          go_wp2_with fail
          go_ret
          exact ⟨rfl, HB2.out⟩
      case pos =>
        obtain ⟨k, rfl⟩ : ∃ k : Nat, x = k := ⟨x.toNat, by omega⟩
        have hk : k < ts.length := by omega
        have HE := hid (show byI ts (k : Int) kn ke kd = byN ts k kn ke kd by unfold byI; rw [h1, h2, decide_eq_true hx]; rfl)
        rw [HE.out]
        have hT : TreeP ts := by
          by_cases hN : NamesP ts
          · exact hN.1
          · rw [namesB_f hN] at h1; cases h1
        have CB := hid (fun wx (hb : Below w.heap.size w wx) => c_spec_l13By a cap ts k kn ke kd wx (hR.below hb) hT hk hn hz hE)
        have HBX := hid (box_key w (.int .i64 kn) (.int .i64 ke) (.int .i64 kd) 26)
        have e0 : decide (0 ≤ (k : Int)) = true := decide_eq_true hx.1
        have e1 : (k : Int) < (ts.length : Int) := hx.2
        clear hR hz HE h1 h2 hx hT hE hk
        generalize byN ts k kn ke kd = Y at *
        generalize ts.length = n at *
        go_enter Tryz.func9, Tryz.ntmps9
        go_wp2_with fail
        refine (CN.out _ HBA.out).mono ?_
        rintro e w1 ⟨rfl, hb1⟩
        have HB1 := hid (bb HBA.out hb1)
        have HA1 := hid hb1
        clear hb1 CN HBA
        go_wp2_with fail
        refine (CI.out _ HB1.out).mono ?_
        rintro e w2 ⟨rfl, hb2⟩
        have HB2 := hid (bb HB1.out hb2)
        have HA2 := hid (bb HA1.out hb2)
        clear hb2 CI HB1 HA1
        have d0 := (HA2.out.cell (p := ⟨w.heap.size, 0, none⟩) HBX.out.2.2.2).trans HBX.out.1
        have d1 := (HA2.out.cell (p := ⟨w.heap.size, 1, none⟩) HBX.out.2.2.2).trans HBX.out.2.1
        have d2 := (HA2.out.cell (p := ⟨w.heap.size, 2, none⟩) HBX.out.2.2.2).trans HBX.out.2.2.1
        clear HBX HA2
        go_wp2_with fail
        refine (CB.out _ HB2.out).mono ?_
        rintro e w3 ⟨rfl, hb3⟩
        have HB3 := hid (bb HB2.out hb3)
        clear hb3 CB HB2 d0 d1 d2
        go_wp2_with fail
        go_ret
        exact ⟨rfl, HB3.out⟩

end Go.Proofs.YtnbpcgeojmikoaaGreatDoor

namespace Go.Proofs.YtnbpcgeojmikoaaGreatDoor
open Go.RowKit
set_option linter.unusedVariables false
set_option linter.unusedSimpArgs false

/-- Its name is one of the three. -/
noncomputable def justN (x : At) : Bool := open Classical in decide (x.name = refS) || (decide (x.name = sumS) || decide (x.name = signS))

noncomputable def justL (l : List At) : Bool := (ownA l).all justN && decide ((ownA l).length = 3)

theorem valF_cons (y : At) (l : List At) (s : ByteArray) : valF (y :: l) s = if y.name = s then some y.value else valF l s := by
  unfold valF
  rw [List.find?_cons]
  by_cases h : y.name = s
  · rw [if_pos h, decide_eq_true h]
    rfl
  · rw [if_neg h, decide_eq_false h]

theorem valF_own {l : List At} (hd : (l.map (·.name)).Nodup) {x : At} (hx : x ∈ l) : valF l x.name = some x.value := by
  induction l with
  | nil => cases hx
  | cons y l ih =>
    rw [List.map_cons, List.nodup_cons] at hd
    rw [valF_cons]
    rcases List.mem_cons.1 hx with h | hm
    · rw [if_pos (by rw [h]), h]
    · rw [if_neg, ih hd.2 hm]
      intro e
      exact hd.1 (by rw [e]; exact List.mem_map_of_mem hm)

theorem three_of {a b c r s g : ByteArray} (ha : a = r ∨ a = s ∨ a = g) (hb : b = r ∨ b = s ∨ b = g) (hc : c = r ∨ c = s ∨ c = g) (h1 : ¬ a = b) (h2 : ¬ a = c) (h3 : ¬ b = c) : (a = s ∨ b = s ∨ c = s) ∧ (a = g ∨ b = g ∨ c = g) := by
  rcases ha with ha | ha | ha <;> rcases hb with hb | hb | hb <;> rcases hc with hc | hc | hc <;> first
    | exact absurd (ha.trans hb.symm) h1
    | exact absurd (ha.trans hc.symm) h2
    | exact absurd (hb.trans hc.symm) h3
    | exact ⟨Or.inl ha, Or.inr (Or.inl hb)⟩
    | exact ⟨Or.inl ha, Or.inr (Or.inr hc)⟩
    | exact ⟨Or.inr (Or.inl hb), Or.inl ha⟩
    | exact ⟨Or.inr (Or.inl hb), Or.inr (Or.inr hc)⟩
    | exact ⟨Or.inr (Or.inr hc), Or.inl ha⟩
    | exact ⟨Or.inr (Or.inr hc), Or.inr (Or.inl hb)⟩

theorem just_is {x : At} : justN x = true ↔ x.name = refS ∨ x.name = sumS ∨ x.name = signS := by
  unfold justN
  simp only [Bool.or_eq_true, decide_eq_true_eq]

theorem ownA_sub {l : List At} {x : At} (h : x ∈ ownA l) : x ∈ l := (List.mem_filter.1 h).1

theorem own_nodup {l : List At} (hd : (l.map (·.name)).Nodup) : ((ownA l).map (·.name)).Nodup := (List.Sublist.map _ List.filter_sublist).nodup hd

/-- Where the three stand, each of them does. -/
theorem just_has {l : List At} (hd : (l.map (·.name)).Nodup) (h : justL l = true) : (∃ x ∈ ownA l, x.name = sumS) ∧ ∃ x ∈ ownA l, x.name = signS := by
  unfold justL at h
  rw [Bool.and_eq_true, decide_eq_true_eq, List.all_eq_true] at h
  have hn := own_nodup hd
  obtain ⟨h1, h2⟩ := h
  generalize ownA l = o at *
  match o, h2 with
  | [a, b, c], _ =>
    simp only [List.map_cons, List.map_nil, List.nodup_cons, List.mem_cons, List.not_mem_nil, or_false, not_or] at hn
    obtain ⟨hs, hg⟩ := three_of (just_is.1 (h1 a (by simp))) (just_is.1 (h1 b (by simp))) (just_is.1 (h1 c (by simp))) hn.1.1 hn.1.2 hn.2.1
    refine ⟨?_, ?_⟩
    · rcases hs with e | e | e
      · exact ⟨a, by simp, e⟩
      · exact ⟨b, by simp, e⟩
      · exact ⟨c, by simp, e⟩
    · rcases hg with e | e | e
      · exact ⟨a, by simp, e⟩
      · exact ⟨b, by simp, e⟩
      · exact ⟨c, by simp, e⟩

/-- What the program asks, in its order. -/
noncomputable def sealJ (l : List At) : Bool := justL l && (tenB ((valF l sumS).getD ByteArray.empty) && tenB ((valF l signS).getD ByteArray.empty))

theorem refS_sum : ¬ refS = sumS := by decide
theorem refS_sign : ¬ refS = signS := by decide
theorem sumS_sign : ¬ sumS = signS := by decide

theorem seal_just {l : List At} (hd : (l.map (·.name)).Nodup) : sealL l = sealJ l := by
  rw [Bool.eq_iff_iff]
  constructor
  · intro h
    unfold sealL at h
    rw [Bool.and_eq_true, List.all_eq_true] at h
    have hj : justL l = true := by
      unfold justL
      rw [Bool.and_eq_true, List.all_eq_true]
      refine ⟨fun x hx => ?_, h.2⟩
      have hs := h.1 x hx
      unfold sealAt at hs
      rw [just_is]
      simp only [Bool.or_eq_true, Bool.and_eq_true, decide_eq_true_eq] at hs
      rcases hs with e | ⟨e | e, _⟩
      · exact Or.inl e
      · exact Or.inr (Or.inl e)
      · exact Or.inr (Or.inr e)
    obtain ⟨⟨x, hx, ex⟩, ⟨y, hy, ey⟩⟩ := just_has hd hj
    have vx := valF_own hd (ownA_sub hx)
    have vy := valF_own hd (ownA_sub hy)
    have sx := h.1 x hx
    have sy := h.1 y hy
    unfold sealAt at sx sy
    rw [ex] at vx sx
    rw [ey] at vy sy
    simp only [Bool.or_eq_true, Bool.and_eq_true, decide_eq_true_eq] at sx sy
    unfold sealJ
    rw [hj, vx, vy, Bool.true_and, Bool.and_eq_true]
    refine ⟨?_, ?_⟩
    · rcases sx with e | ⟨_, e⟩
      · exact absurd e.symm refS_sum
      · exact e
    · rcases sy with e | ⟨_, e⟩
      · exact absurd e.symm refS_sign
      · exact e
  · intro h
    unfold sealJ at h
    rw [Bool.and_eq_true, Bool.and_eq_true] at h
    obtain ⟨hj, h1, h2⟩ := h
    unfold justL at hj
    rw [Bool.and_eq_true, List.all_eq_true] at hj
    unfold sealL
    rw [Bool.and_eq_true, List.all_eq_true]
    refine ⟨fun x hx => ?_, hj.2⟩
    have vx := valF_own hd (ownA_sub hx)
    unfold sealAt
    simp only [Bool.or_eq_true, Bool.and_eq_true, decide_eq_true_eq]
    rcases just_is.1 (hj.1 x hx) with e | e | e
    · exact Or.inl e
    · rw [e] at vx
      rw [vx] at h1
      exact Or.inr ⟨Or.inl e, h1⟩
    · rw [e] at vx
      rw [vx] at h2
      exact Or.inr ⟨Or.inr e, h2⟩

theorem names_nd {ts : List Tk} (hT : TreeP ts) (k : Nat) : ((atsJ ts k).map (·.name)).Nodup := by
  unfold atsJ
  cases e : ts[k]? with
  | none => exact List.nodup_nil
  | some t =>
    show (t.attrs.map (·.name)).Nodup
    obtain ⟨hk, et⟩ := List.getElem?_eq_some_iff.1 e
    obtain ⟨_, hb⟩ := (hT.2.2.2.2 k hk).1
    rw [et] at hb
    unfold nodeB at hb
    split at hb
    · rw [Bool.and_eq_true, decide_eq_true_eq] at hb
      rw [List.eq_nil_of_length_eq_zero hb.1]
      exact List.nodup_nil
    · rw [Bool.and_eq_true, Bool.and_eq_true] at hb
      have ho : AttrsOk t.attrs := by
        by_cases q : AttrsOk t.attrs
        · exact q
        · rw [attrsB_f q] at hb
          cases hb.2.1
      unfold AttrsOk AtsOk at ho
      have : t.attrs.Pairwise fun a b => ¬ a.name = b.name := List.pairwise_iff_getElem.2 fun i j hi hj hij => ho.2.2 j i hj hij hj
      exact List.pairwise_map.2 this

/-- The parent has the Id that is told, which is not empty. -/
theorem refers_is {ts : List Tk} (hI : idsB ts = true) (hT : TreeP ts) {k : Nat} (hk : k < ts.length) : refersN ts k = (!decide ((refF (atsJ ts k)).size = 0) && decide (idI ts (parI ts k) = refF (atsJ ts k))) := by
  unfold refersN idI
  have hl : parI ts k < ts.length := by
    by_cases h0 : 0 ≤ parI ts k
    · have := up_lt hT hk (p := (parI ts k).toNat) (by omega)
      omega
    · omega
  have hP : IdsP ts ts.length := by
    have h1 := hI
    unfold idsB at h1
    rw [Bool.and_eq_true] at h1
    exact @of_decide_eq_true _ (Classical.propDecidable _) h1.1
  rw [Bool.eq_iff_iff]
  simp only [Bool.and_eq_true, decide_eq_true_eq, Bool.not_eq_true', decide_eq_false_iff_not]
  constructor
  · rintro ⟨h0, h1⟩
    have ho := hP.1 _ (mem_idsTo.2 ⟨(parI ts k).toNat, by omega, h1⟩)
    rw [if_pos ⟨hI, h0, hl⟩, h1]
    refine ⟨fun e => ?_, rfl⟩
    unfold idOk at ho
    simp [e] at ho
  · rintro ⟨h0, h1⟩
    by_cases q : 0 ≤ parI ts k
    · rw [if_pos ⟨hI, q, hl⟩] at h1
      refine ⟨q, ?_⟩
      cases e : idAt ts (parI ts k).toNat with
      | none =>
        rw [e] at h1
        rw [← h1] at h0
        exact absurd rfl h0
      | some v =>
        rw [e] at h1
        rw [← h1]
        rfl
    · rw [if_neg (fun h => q h.2.1)] at h1
      rw [← h1] at h0
      exact absurd rfl h0

theorem no_kids {ts : List Tk} (hT : TreeP ts) {k : Nat} (hk : k < ts.length) : decide ((kidsN ts k).length = 0) = decide (endN ts k = k + 1) := by
  have he := endN_le hk
  have key : (kidsN ts k).length = 0 ↔ endN ts k = k + 1 := by
    constructor
    · intro h
      by_cases q : endN ts k = k + 1
      · exact q
      · have hp := first_kid hT hk (by omega)
        have hm : k + 1 ∈ kidsN ts k := by
          unfold kidsN kidsTo
          exact List.mem_filter.2 ⟨List.mem_range.2 (by omega), by rw [decide_eq_true (Nat.lt_succ_self k), decide_eq_true hp]; rfl⟩
        rw [List.length_eq_zero_iff] at h
        rw [h] at hm
        exact absurd hm List.not_mem_nil
    · intro h
      rw [List.length_eq_zero_iff, List.eq_nil_iff_forall_not_mem]
      intro i hi
      have h1 := kidsN_lt hi
      unfold kidsN kidsTo at hi
      have h2 := (List.mem_filter.1 hi).2
      simp only [Bool.and_eq_true, decide_eq_true_eq] at h2
      exact no_kid hT hk (by omega) h1 h2.2
  by_cases q : endN ts k = k + 1
  · rw [decide_eq_true q, decide_eq_true (key.2 q)]
  · rw [decide_eq_false q, decide_eq_false (fun h => q (key.1 h))]

/-- A seal stands there. -/
noncomputable def sealX (ts : List Tk) (x : Int) : Bool := decide (0 ≤ x ∧ x < ts.length) && sealN ts x.toNat

theorem sealX_is {ts : List Tk} (hT : TreeP ts) (x : Int) : sealX ts x = (knownI ts x sealS sealM && (decide ((kidsI ts x).length = 0) && sealJ (atsJ ts x.toNat))) := by
  have ht : treeB ts = true := treeB_t hT
  unfold sealX knownI elemB kidsI hasB
  rw [ht]
  by_cases hx : 0 ≤ x ∧ x < ts.length
  · have hk : x.toNat < ts.length := by omega
    rw [decide_eq_true hx]
    simp only [Bool.true_and, if_true]
    rw [no_kids hT hk]
    unfold sealN
    rw [seal_just (names_nd hT _)]
    simp only [Bool.and_assoc]
  · rw [decide_eq_false hx]
    simp only [Bool.and_false, Bool.false_and]

end Go.Proofs.YtnbpcgeojmikoaaGreatDoor
