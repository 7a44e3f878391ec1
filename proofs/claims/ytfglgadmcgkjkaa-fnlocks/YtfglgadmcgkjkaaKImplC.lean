/- Contracts of Public, KeyOk, Locked and Opened, of the program. -/
import Derived.Test.YtfglgadmcgkjkaaKImplB
namespace Go.Proofs.Ytfglgadmcgkjkaa
open Go.RowKit
set_option linter.unusedVariables false
set_option linter.unusedSimpArgs false

/-- What Public tells: the modulus, and the power. -/
def pubN (n e : Int) : Int := if opB n e = true then n else 0

def pubE (n e : Int) : Int := if opB n e = true then e else 0

/-- What Locked tells. -/
noncomputable def lockI (n e d h : Int) : Int := if lkB n e d = true then powI h d n else -1

/-- What Opened tells. -/
noncomputable def openI (n e d v : Int) : Int := if okB n e d = true then powI v e n else -1

theorem bb {w a b : World} (h : Below w.heap.size w a) (k : Below a.heap.size a b) : Below w.heap.size w b := h.trans (k.mono h.size)

set_option maxHeartbeats 1000000 in
theorem cPublicI (n e d : Int) (w : World) :
    Calls Try.prog 13 #[.agg #[.int .i64 n, .int .i64 e, .int .i64 d]] w fun x w' => x = .returned (.agg #[.int .i64 (pubN n e), .int .i64 (pubE n e), .int .i64 0]) ∧ Below w.heap.size w w' := by
  have CW := fun w => cWholeOf n e d w
  have CO := fun w => cOpens n e w
  have CS := fun w => cShown n e w
  by_cases h : opB n e = true
  · rw [show pubN n e = n by unfold pubN; rw [if_pos h], show pubE n e = e by unfold pubE; rw [if_pos h]]
    rw [h] at CO
    go_enter Try.func13, Try.ntmps13
    go_wp2_with fail
    refine (CW _).mono ?_
    rintro x w1 ⟨rfl, hb⟩
    obtain ⟨hc, hf⟩ := bcell hb
    have HB : Hid (Below w.heap.size w w1) := (((Below.refl _ _).alloc (Nat.le_refl _) _).alloc (by simp) _).trans (hb.mono (by simp; omega))
    have hz : w.heap.size + 1 < w1.heap.size := by have := hb.size; simp at this; omega
    have hz0 : w.heap.size < w1.heap.size := by omega
    go_wp2_with fail
    refine (CO _).mono ?_
    rintro x w2 ⟨rfl, hb2⟩
    obtain ⟨hc2, hf2⟩ := bcell hb2
    have HB2 : Hid (Below w.heap.size w w2) := bb (HB.out.alloc HB.out.size _) hb2
    have hy : w1.heap.size < w2.heap.size := by have := hb2.size; simp at this; omega
    have hy1 : w.heap.size + 1 < w2.heap.size := by omega
    have hy0 : w.heap.size < w2.heap.size := by omega
    go_wp2_with fail
    refine (CS _).mono ?_
    rintro x w3 ⟨rfl, hb3⟩
    obtain ⟨hc3, hf3⟩ := bcell hb3
    have HB3 : Hid (Below w.heap.size w w3) := bb HB2.out hb3
    go_wp2_with fail
    refine bodyPost_ret (v := .agg #[.int .i64 n, .int .i64 e, .int .i64 0]) (by simp [results, Try.results13, go_sem, hc3, hc2, hc, hz, hy, hz0, hy0, hy1]) rfl ⟨rfl, ?_⟩
    repeat first | exact HB3.out | refine Below.setCell ?_ (by simp; try omega) _ | refine Below.alloc ?_ (by simp; try omega) _
  · rw [show pubN n e = 0 by unfold pubN; rw [if_neg h], show pubE n e = 0 by unfold pubE; rw [if_neg h]]
    have h : opB n e = false := by simpa using h
    rw [h] at CO
    go_enter Try.func13, Try.ntmps13
    go_wp2_with fail
    refine (CW _).mono ?_
    rintro x w1 ⟨rfl, hb⟩
    obtain ⟨hc, hf⟩ := bcell hb
    have HB : Hid (Below w.heap.size w w1) := (((Below.refl _ _).alloc (Nat.le_refl _) _).alloc (by simp) _).trans (hb.mono (by simp; omega))
    have hz : w.heap.size + 1 < w1.heap.size := by have := hb.size; simp at this; omega
    have hz0 : w.heap.size < w1.heap.size := by omega
    go_wp2_with fail
    refine (CO _).mono ?_
    rintro x w2 ⟨rfl, hb2⟩
    obtain ⟨hc2, hf2⟩ := bcell hb2
    have HB2 : Hid (Below w.heap.size w w2) := bb (HB.out.alloc HB.out.size _) hb2
    have hy : w1.heap.size < w2.heap.size := by have := hb2.size; simp at this; omega
    have hy1 : w.heap.size + 1 < w2.heap.size := by omega
    have hy0 : w.heap.size < w2.heap.size := by omega
    go_wp2_with fail
    refine bodyPost_ret (v := .agg #[.int .i64 0, .int .i64 0, .int .i64 0]) (by simp [results, Try.results13, go_sem, hc2, hc, hz, hy, hz0, hy0, hy1]) rfl ⟨rfl, ?_⟩
    repeat first | exact HB2.out | refine Below.setCell ?_ (by simp; try omega) _ | refine Below.alloc ?_ (by simp; try omega) _

theorem cKeyOkI (n e d : Int) (w : World) :
    Calls Try.prog 16 #[.agg #[.int .i64 n, .int .i64 e, .int .i64 d]] w fun x w' => x = .returned (.bool (okB n e d)) ∧ Below w.heap.size w w' := by
  have CW := fun w => cWholeOf n e d w
  have CK := fun w => cOk n e d w
  generalize okB n e d = B at *
  go_enter Try.func16, Try.ntmps16
  go_wp2_with fail
  refine (CW _).mono ?_
  rintro x w1 ⟨rfl, hb⟩
  have HB : Hid (Below w.heap.size w w1) := ((Below.refl _ _).alloc (Nat.le_refl _) _).trans (hb.mono (by simp))
  go_wp2_with fail
  refine (CK _).mono ?_
  rintro x w2 ⟨rfl, hb2⟩
  go_wp2_with fail
  go_ret
  exact ⟨rfl, bb HB.out hb2⟩

set_option maxHeartbeats 1000000 in
theorem cLockedI (n e d h : Int) (w : World) (hd : d ≤ 9223372036854775807) :
    Calls Try.prog 18 #[.agg #[.int .i64 n, .int .i64 e, .int .i64 d], .int .i64 h] w fun x w' => x = .returned (.int .i64 (lockI n e d h)) ∧ Below w.heap.size w w' := by
  have CW := fun w => cWholeOf n e d w
  have CL := fun w => cLocks n e d w
  have CR := fun w => cRaised n e h d w hd
  by_cases k : lkB n e d = true
  · rw [show lockI n e d h = powI h d n by unfold lockI; rw [if_pos k]]
    rw [k] at CL
    generalize powI h d n = r at *
    go_enter Try.func18, Try.ntmps18
    go_wp2_with fail
    refine (CW _).mono ?_
    rintro x w1 ⟨rfl, hb⟩
    obtain ⟨hc, hf⟩ := bcell hb
    have HB : Hid (Below w.heap.size w w1) := ((Below.refl _ _).alloc (Nat.le_refl _) _).trans (hb.mono (by simp))
    have hz0 : w.heap.size < w1.heap.size := by have := hb.size; simp at this; omega
    go_wp2_with fail
    refine (CL _).mono ?_
    rintro x w2 ⟨rfl, hb2⟩
    obtain ⟨hc2, hf2⟩ := bcell hb2
    have HB2 : Hid (Below w.heap.size w w2) := bb (HB.out.alloc HB.out.size _) hb2
    have hy : w1.heap.size < w2.heap.size := by have := hb2.size; simp at this; omega
    go_wp2_with fail
    refine (CR _).mono ?_
    rintro x w3 ⟨rfl, hb3⟩
    go_wp2_with fail
    go_ret
    exact ⟨rfl, bb HB2.out hb3⟩
  · rw [show lockI n e d h = -1 by unfold lockI; rw [if_neg k]]
    have k : lkB n e d = false := by simpa using k
    rw [k] at CL
    go_enter Try.func18, Try.ntmps18
    go_wp2_with fail
    refine (CW _).mono ?_
    rintro x w1 ⟨rfl, hb⟩
    obtain ⟨hc, hf⟩ := bcell hb
    have HB : Hid (Below w.heap.size w w1) := ((Below.refl _ _).alloc (Nat.le_refl _) _).trans (hb.mono (by simp))
    have hz0 : w.heap.size < w1.heap.size := by have := hb.size; simp at this; omega
    go_wp2_with fail
    refine (CL _).mono ?_
    rintro x w2 ⟨rfl, hb2⟩
    have HB2 : Hid (Below w.heap.size w w2) := bb (HB.out.alloc HB.out.size _) hb2
    go_wp2_with fail
    go_ret
    exact ⟨rfl, HB2.out⟩

set_option maxHeartbeats 1000000 in
theorem cOpenedI (n e d v : Int) (w : World) (he : e ≤ 9223372036854775807) :
    Calls Try.prog 23 #[.agg #[.int .i64 n, .int .i64 e, .int .i64 d], .int .i64 v] w fun x w' => x = .returned (.int .i64 (openI n e d v)) ∧ Below w.heap.size w w' := by
  have CW := fun w => cWholeOf n e d w
  have CL := fun w => cOk n e d w
  have CR := fun w => cRaised n e v e w he
  by_cases k : okB n e d = true
  · rw [show openI n e d v = powI v e n by unfold openI; rw [if_pos k]]
    rw [k] at CL
    generalize powI v e n = r at *
    go_enter Try.func23, Try.ntmps23
    go_wp2_with fail
    refine (CW _).mono ?_
    rintro x w1 ⟨rfl, hb⟩
    obtain ⟨hc, hf⟩ := bcell hb
    have HB : Hid (Below w.heap.size w w1) := ((Below.refl _ _).alloc (Nat.le_refl _) _).trans (hb.mono (by simp))
    have hz0 : w.heap.size < w1.heap.size := by have := hb.size; simp at this; omega
    go_wp2_with fail
    refine (CL _).mono ?_
    rintro x w2 ⟨rfl, hb2⟩
    obtain ⟨hc2, hf2⟩ := bcell hb2
    have HB2 : Hid (Below w.heap.size w w2) := bb (HB.out.alloc HB.out.size _) hb2
    have hy : w1.heap.size < w2.heap.size := by have := hb2.size; simp at this; omega
    go_wp2_with fail
    refine (CR _).mono ?_
    rintro x w3 ⟨rfl, hb3⟩
    go_wp2_with fail
    go_ret
    exact ⟨rfl, bb HB2.out hb3⟩
  · rw [show openI n e d v = -1 by unfold openI; rw [if_neg k]]
    have k : okB n e d = false := by simpa using k
    rw [k] at CL
    go_enter Try.func23, Try.ntmps23
    go_wp2_with fail
    refine (CW _).mono ?_
    rintro x w1 ⟨rfl, hb⟩
    obtain ⟨hc, hf⟩ := bcell hb
    have HB : Hid (Below w.heap.size w w1) := ((Below.refl _ _).alloc (Nat.le_refl _) _).trans (hb.mono (by simp))
    have hz0 : w.heap.size < w1.heap.size := by have := hb.size; simp at this; omega
    go_wp2_with fail
    refine (CL _).mono ?_
    rintro x w2 ⟨rfl, hb2⟩
    have HB2 : Hid (Below w.heap.size w w2) := bb (HB.out.alloc HB.out.size _) hb2
    go_wp2_with fail
    go_ret
    exact ⟨rfl, HB2.out⟩

end Go.Proofs.Ytfglgadmcgkjkaa
