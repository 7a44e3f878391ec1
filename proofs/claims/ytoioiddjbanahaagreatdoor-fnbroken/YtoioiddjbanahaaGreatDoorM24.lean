/-  -/
import Derived.Test.YtoioiddjbanahaaGreatDoorM22
import Derived.Test.YtoioiddjbanahaaGreatDoorM23
import Derived.Test.YtoioiddjbanahaaGreatDoorM18
import Derived.Test.YtoioiddjbanahaaGreatDoorM21
set_option linter.unusedVariables false
set_option linter.unusedSimpArgs false
namespace Go.Proofs.YtoioiddjbanahaaGreatDoor

open Go.RowKit

set_option maxHeartbeats 1000000 in
theorem cLocks (m o d : Int) (w : World) :
  Calls Tryz.prog 64 #[.agg #[.int .i64 m, .int .i64 o, .int .i64 d]] w fun e w' => e = .returned (.bool (lkB m o d)) /\ Below w.heap.size w w' := by
 have CO := fun w => cOpens m o w
 by_cases h : opB m o = true
 ·have CP := fun w => cPowerOk m o d w
  obtain ⟨B, hB⟩ : ∃ B, pwB m d = B := ⟨_, rfl⟩
  have hq : lkB m o d = B := by
   have h' : (2147483648 <= m /\ m <= 3000000000) /\ 3 <= o /\ o < m := of_decide_eq_true h
   rw [<- hB]; unfold lkB pwB; simp [h']
  rw [hq]
  rw [hB] at CP
  rw [h] at CO
  clear hq hB h
  go_enter Tryz.func64, Tryz.ntmps64
  go_wp2_with fail
  refine (CO _).mono ?_
  rintro e w1 ⟨rfl, hb⟩
  obtain ⟨hc, hf⟩ := k_bcell hb
  have HB : Hid (Below w.heap.size w w1) := ((Below.refl _ _).alloc (Nat.le_refl _) _).trans (hb.mono (by simp))
  go_wp2_with (go_at_call 121; refine (CP _).mono ?_; rintro e w2 ⟨rfl, hb2⟩)
  go_ret
  exact ⟨rfl, HB.out.trans (hb2.mono HB.out.size)⟩
 ·have h : opB m o = false := by simpa using h
  have hq : lkB m o d = false := by
   have h' : ¬ ((2147483648 <= m /\ m <= 3000000000) /\ 3 <= o /\ o < m) := of_decide_eq_false h
   unfold lkB; exact dec_f (fun x => h' x.1)
  rw [hq]
  rw [h] at CO
  clear hq h
  go_enter Tryz.func64, Tryz.ntmps64
  go_wp2_with (go_at_call 120; refine (CO _).mono ?_; rintro e w1 ⟨rfl, hb⟩)
  go_ret
  exact ⟨rfl, ((Below.refl _ _).alloc (Nat.le_refl _) _).trans (hb.mono (by simp))⟩

set_option maxHeartbeats 1000000 in
theorem cOk (m o d : Int) (w : World) :
  Calls Tryz.prog 271 #[.agg #[.int .i64 m, .int .i64 o, .int .i64 d]] w fun e w' => e = .returned (.bool (okB m o d)) /\ Below w.heap.size w w' := by
 have CL := fun w => cLocks m o d w
 by_cases h : lkB m o d = true
 ·have hq : okB m o d = true := by
   have h' : ((2147483648 <= m /\ m <= 3000000000) /\ 3 <= o /\ o < m) /\ 3 <= d /\ d < m := of_decide_eq_true h
   exact dec_t ⟨h'.1, .inr h'.2⟩
  rw [hq]
  rw [h] at CL
  clear hq h
  go_enter Tryz.func271, Tryz.ntmps271
  go_wp2_with (go_at_call 64; refine (CL _).mono ?_; rintro e w1 ⟨rfl, hb⟩)
  go_ret
  exact ⟨rfl, ((Below.refl _ _).alloc (Nat.le_refl _) _).trans (hb.mono (by simp))⟩
 ·have h : lkB m o d = false := by simpa using h
  have h' : ¬ (((2147483648 <= m /\ m <= 3000000000) /\ 3 <= o /\ o < m) /\ 3 <= d /\ d < m) := of_decide_eq_false h
  have CO := fun w => cOpens m o w
  rw [h] at CL
  by_cases k : opB m o = true
  ·have k' : (2147483648 <= m /\ m <= 3000000000) /\ 3 <= o /\ o < m := of_decide_eq_true k
   rw [k] at CO
   by_cases hd : d = 0
   ·have hq : okB m o d = true := dec_t ⟨k', .inl hd⟩
    rw [hq]
    have he : (d == 0) = true := by simpa using hd
    clear hq h h' k k' hd
    go_enter Tryz.func271, Tryz.ntmps271
    go_wp2_with fail
    refine (CL _).mono ?_
    rintro e w1 ⟨rfl, hb⟩
    obtain ⟨hc, hf⟩ := k_bcell hb
    have HB : Hid (Below w.heap.size w w1) := ((Below.refl _ _).alloc (Nat.le_refl _) _).trans (hb.mono (by simp))
    have hz : w.heap.size < w1.heap.size := by have := hb.size; simp at this; omega
    go_wp2_with fail
    refine (CO _).mono ?_
    rintro e w2 ⟨rfl, hb2⟩
    obtain ⟨hc2, hf2⟩ := k_bcell hb2
    go_wp2_with fail
    go_ret
    exact ⟨rfl, HB.out.trans (hb2.mono HB.out.size)⟩
   ·have hq : okB m o d = false := dec_f (fun x => x.2.elim hd (fun y => h' ⟨k', y⟩))
    rw [hq]
    have he : (d == 0) = false := by simpa using hd
    clear hq h h' k k'
    go_enter Tryz.func271, Tryz.ntmps271
    go_wp2_with fail
    refine (CL _).mono ?_
    rintro e w1 ⟨rfl, hb⟩
    obtain ⟨hc, hf⟩ := k_bcell hb
    have HB : Hid (Below w.heap.size w w1) := ((Below.refl _ _).alloc (Nat.le_refl _) _).trans (hb.mono (by simp))
    have hz : w.heap.size < w1.heap.size := by have := hb.size; simp at this; omega
    go_wp2_with fail
    refine (CO _).mono ?_
    rintro e w2 ⟨rfl, hb2⟩
    obtain ⟨hc2, hf2⟩ := k_bcell hb2
    go_wp2_with fail
    go_ret
    exact ⟨rfl, HB.out.trans (hb2.mono HB.out.size)⟩
  ·have k : opB m o = false := by simpa using k
   have k' : ¬ ((2147483648 <= m /\ m <= 3000000000) /\ 3 <= o /\ o < m) := of_decide_eq_false k
   have hq : okB m o d = false := dec_f (fun x => k' x.1)
   rw [hq]
   rw [k] at CO
   clear hq h h' k k'
   go_enter Tryz.func271, Tryz.ntmps271
   go_wp2_with fail
   refine (CL _).mono ?_
   rintro e w1 ⟨rfl, hb⟩
   obtain ⟨hc, hf⟩ := k_bcell hb
   have HB : Hid (Below w.heap.size w w1) := ((Below.refl _ _).alloc (Nat.le_refl _) _).trans (hb.mono (by simp))
   have hz : w.heap.size < w1.heap.size := by have := hb.size; simp at this; omega
   go_wp2_with fail
   refine (CO _).mono ?_
   rintro e w2 ⟨rfl, hb2⟩
   go_wp2_with fail
   go_ret
   exact ⟨rfl, HB.out.trans (hb2.mono HB.out.size)⟩

theorem cRaised (m o r p : Int) (w : World) (hp : p <= 9223372036854775807) :
  Calls Tryz.prog 272 #[.agg #[.int .i64 m, .int .i64 o], .int .i64 r, .int .i64 p] w fun e w' => e = .returned (.int .i64 (powI r p m)) /\ Below w.heap.size w w' := by
 have C := fun w => cPowerI r p m w hp
 generalize powI r p m = x at *
 go_enter Tryz.func272, Tryz.ntmps272
 go_wp2_with fail
 refine (C _).mono ?_
 rintro e w1 ⟨rfl, hb⟩
 go_wp2_with fail
 go_ret
 exact ⟨rfl, ((Below.refl _ _).alloc (Nat.le_refl _) _).trans (hb.mono (by simp))⟩

end Go.Proofs.YtoioiddjbanahaaGreatDoor

namespace Go.Proofs.YtoioiddjbanahaaGreatDoor

open Go.RowKit

noncomputable def lockI (n e d h : Int) : Int := if lkB n e d = true then powI h d n else -1

noncomputable def openI (n e d v : Int) : Int := if okB n e d = true then powI v e n else -1

theorem k_bb {w a b : World} (h : Below w.heap.size w a) (k : Below a.heap.size a b) : Below w.heap.size w b := h.trans (k.mono h.size)

set_option maxHeartbeats 1000000 in
theorem cOpenedI (n e d v : Int) (w : World) (he : e <= 9223372036854775807) :
  Calls Tryz.prog 270 #[.agg #[.int .i64 n, .int .i64 e, .int .i64 d], .int .i64 v] w fun x w' => x = .returned (.int .i64 (openI n e d v)) /\ Below w.heap.size w w' := by
 have CW := fun w => cWholeOf n e d w
 have CL := fun w => cOk n e d w
 have CR := fun w => cRaised n e v e w he
 by_cases k : okB n e d = true
 ·rw [show openI n e d v = powI v e n by unfold openI; rw [if_pos k]]
  rw [k] at CL
  generalize powI v e n = r at *
  go_enter Tryz.func270, Tryz.ntmps270
  go_wp2_with fail
  refine (CW _).mono ?_
  rintro x w1 ⟨rfl, hb⟩
  obtain ⟨hc, hf⟩ := k_bcell hb
  have HB : Hid (Below w.heap.size w w1) := ((Below.refl _ _).alloc (Nat.le_refl _) _).trans (hb.mono (by simp))
  have hz0 : w.heap.size < w1.heap.size := by have := hb.size; simp at this; omega
  go_wp2_with fail
  refine (CL _).mono ?_
  rintro x w2 ⟨rfl, hb2⟩
  obtain ⟨hc2, hf2⟩ := k_bcell hb2
  have HB2 : Hid (Below w.heap.size w w2) := k_bb (HB.out.alloc HB.out.size _) hb2
  have hy : w1.heap.size < w2.heap.size := by have := hb2.size; simp at this; omega
  go_wp2_with fail
  refine (CR _).mono ?_
  rintro x w3 ⟨rfl, hb3⟩
  go_wp2_with fail
  go_ret
  exact ⟨rfl, k_bb HB2.out hb3⟩
 ·rw [show openI n e d v = -1 by unfold openI; rw [if_neg k]]
  have k : okB n e d = false := by simpa using k
  rw [k] at CL
  go_enter Tryz.func270, Tryz.ntmps270
  go_wp2_with fail
  refine (CW _).mono ?_
  rintro x w1 ⟨rfl, hb⟩
  obtain ⟨hc, hf⟩ := k_bcell hb
  have HB : Hid (Below w.heap.size w w1) := ((Below.refl _ _).alloc (Nat.le_refl _) _).trans (hb.mono (by simp))
  have hz0 : w.heap.size < w1.heap.size := by have := hb.size; simp at this; omega
  go_wp2_with fail
  refine (CL _).mono ?_
  rintro x w2 ⟨rfl, hb2⟩
  have HB2 : Hid (Below w.heap.size w w2) := k_bb (HB.out.alloc HB.out.size _) hb2
  go_wp2_with fail
  go_ret
  exact ⟨rfl, HB2.out⟩

end Go.Proofs.YtoioiddjbanahaaGreatDoor

namespace Go.Proofs.YtoioiddjbanahaaGreatDoor

open Go.RowKit

set_option maxHeartbeats 1000000 in
theorem cPubB (n e d : Int) (w : World) :
  Calls Tryz.prog 168 #[.agg #[.int .i64 n, .int .i64 e, .int .i64 d]] w fun x w' => x = .returned (.bool (opB n e)) /\ Below w.heap.size w w' := by
 have C1 := fun w => cIn5 n 2147483648 3000000000 w
 by_cases hr : 2147483648 <= n /\ n <= 3000000000
 ·rw [dec_t hr] at C1
  have C2 := fun w => cIn5 e 3 (n - 1) w
  obtain ⟨B, hB⟩ : ∃ B, opB n e = B := ⟨_, rfl⟩
  have hq : decide (3 <= e /\ e <= n - 1) = B := by
   rw [<- hB]; unfold opB
   rw [Bool.eq_iff_iff]; simp [hr]; omega
  rw [hq] at C2
  rw [hB]
  have e1 : wrap64 (n - 1) = n - 1 := IntWalk.wrap64_in _ (by omega)
  have e2 : IntKind.i64.wrap (n - 1) = n - 1 := IntWalk.i64_in _ (by omega)
  clear hq hB
  go_enter Tryz.func168, Tryz.ntmps168
  go_wp2_with fail
  refine (C1 _).mono ?_
  rintro x w1 ⟨rfl, rfl⟩
  go_wp2_with fail
  refine (C2 _).mono ?_
  rintro x w1 ⟨rfl, rfl⟩
  go_wp2_with fail
  go_ret
  exact ⟨rfl, (Below.refl _ _).alloc (Nat.le_refl _) _⟩
 ·rw [dec_f hr] at C1
  rw [show opB n e = false from dec_f (fun x => hr x.1)]
  clear hr
  go_enter Tryz.func168, Tryz.ntmps168
  go_wp2_with fail
  refine (C1 _).mono ?_
  rintro x w1 ⟨rfl, rfl⟩
  go_wp2_with fail
  go_ret
  exact ⟨rfl, (Below.refl _ _).alloc (Nat.le_refl _) _⟩

set_option maxHeartbeats 1000000 in
theorem cKeyOkS (n e d : Int) (w : World) :
  Calls Tryz.prog 126 #[.agg #[.int .i64 n, .int .i64 e, .int .i64 d]] w fun x w' => x = .returned (.bool (okB n e d)) /\ Below w.heap.size w w' := by
 have C1 := fun w => cPubB n e d w
 by_cases h : opB n e = true
 ·have h' : (2147483648 <= n /\ n <= 3000000000) /\ 3 <= e /\ e < n := of_decide_eq_true h
  rw [h] at C1
  by_cases hd : d = 0
  ·rw [show okB n e d = true from dec_t ⟨h', .inl hd⟩]
   have he : (d == 0) = true := by simpa using hd
   clear hd h h'
   go_enter Tryz.func126, Tryz.ntmps126
   go_wp2_with fail
   refine (C1 _).mono ?_
   rintro x w1 ⟨rfl, hb⟩
   obtain ⟨hc, hf⟩ := k_bcell hb
   go_wp2_with fail
   go_ret
   exact ⟨rfl, ((Below.refl _ _).alloc (Nat.le_refl _) _).trans (hb.mono (by simp))⟩
  ·have C2 := fun w => cIn5 d 3 (n - 1) w
   obtain ⟨B, hB⟩ : ∃ B, okB n e d = B := ⟨_, rfl⟩
   have hq : decide (3 <= d /\ d <= n - 1) = B := by
    rw [<- hB]; unfold okB
    rw [Bool.eq_iff_iff]; simp [h', hd]; omega
   rw [hq] at C2
   rw [hB]
   have e1 : wrap64 (n - 1) = n - 1 := IntWalk.wrap64_in _ (by omega)
   have e2 : IntKind.i64.wrap (n - 1) = n - 1 := IntWalk.i64_in _ (by omega)
   have he : (d == 0) = false := by simpa using hd
   clear hd hq hB h h'
   go_enter Tryz.func126, Tryz.ntmps126
   go_wp2_with fail
   refine (C1 _).mono ?_
   rintro x w1 ⟨rfl, hb⟩
   obtain ⟨hc, hf⟩ := k_bcell hb
   have HB : Hid (Below w.heap.size w w1) := ((Below.refl _ _).alloc (Nat.le_refl _) _).trans (hb.mono (by simp))
   go_wp2_with fail
   refine (C2 _).mono ?_
   rintro x w2 ⟨rfl, rfl⟩
   go_wp2_with fail
   go_ret
   exact ⟨rfl, HB.out⟩
 ·have h : opB n e = false := by simpa using h
  have h' : ¬ ((2147483648 <= n /\ n <= 3000000000) /\ 3 <= e /\ e < n) := of_decide_eq_false h
  rw [h] at C1
  rw [show okB n e d = false from dec_f (fun x => h' x.1)]
  clear h h'
  go_enter Tryz.func126, Tryz.ntmps126
  go_wp2_with fail
  refine (C1 _).mono ?_
  rintro x w1 ⟨rfl, hb⟩
  go_wp2_with fail
  go_ret
  exact ⟨rfl, ((Below.refl _ _).alloc (Nat.le_refl _) _).trans (hb.mono (by simp))⟩

theorem lk_ok (n e d : Int) : lkB n e d = (okB n e d && !(d == 0)) := by
 unfold lkB okB
 rw [Bool.eq_iff_iff]
 simp
 omega

set_option maxHeartbeats 1000000 in
theorem cLockedS (n e d h : Int) (w : World) (hd : d <= 9223372036854775807) :
  Calls Tryz.prog 139 #[.agg #[.int .i64 n, .int .i64 e, .int .i64 d], .int .i64 h] w fun x w' => x = .returned (.int .i64 (lockI n e d h)) /\ Below w.heap.size w w' := by
 have CK := fun w => cKeyOkS n e d w
 by_cases k : okB n e d = true
 ·have k' : ((2147483648 <= n /\ n <= 3000000000) /\ 3 <= e /\ e < n) /\ (d = 0 \/ 3 <= d /\ d < n) := of_decide_eq_true k
  rw [k] at CK
  by_cases h0 : d = 0
  ·have hl : lockI n e d h = -1 := by unfold lockI; rw [lk_ok, h0]; simp
   rw [hl]
   have he : (d == 0) = true := by simpa using h0
   clear k k' h0 hl
   go_enter Tryz.func139, Tryz.ntmps139
   go_wp2_with fail
   refine (CK _).mono ?_
   rintro x w1 ⟨rfl, hb⟩
   obtain ⟨hc, hf⟩ := k_bcell hb
   go_wp2_with fail
   go_ret
   exact ⟨rfl, ((Below.refl _ _).alloc (Nat.le_refl _) _).trans (hb.mono (by simp))⟩
  ·have he : (d == 0) = false := by simpa using h0
   have hl : lockI n e d h = powI h d n := by unfold lockI; rw [lk_ok, he, k]; rfl
   rw [hl]
   have e1 : wrap64 (n - 1) = n - 1 := IntWalk.wrap64_in _ (by omega)
   have e2 : IntKind.i64.wrap (n - 1) = n - 1 := IntWalk.i64_in _ (by omega)
   have C2 := fun w => cIn5 h 0 (n - 1) w
   by_cases hh : 0 <= h /\ h <= n - 1
   ·rw [dec_t hh] at C2
    have hp : powI h d n = (powOf h.toNat d.toNat n.toNat : Nat) := powI_ok ⟨⟨by omega, by omega⟩, by omega, by omega⟩ (by omega)
    rw [hp]
    have hd3 : 3 <= d /\ d < n := by omega
    obtain ⟨H, rfl⟩ : ∃ A : Nat, h = A := ⟨h.toNat, by omega⟩
    obtain ⟨D, rfl⟩ : ∃ A : Nat, d = A := ⟨d.toNat, by omega⟩
    obtain ⟨N, rfl⟩ : ∃ A : Nat, n = A := ⟨n.toNat, by omega⟩
    simp only [Int.toNat_natCast]
    have CP := fun w => cPowerL H D N w (by omega) (by omega) (by omega) hd
    generalize powOf H D N = R at *
    clear k hl hp
    go_enter Tryz.func139, Tryz.ntmps139
    go_wp2_with fail
    refine (CK _).mono ?_
    rintro x w1 ⟨rfl, hb⟩
    obtain ⟨hc, hf⟩ := k_bcell hb
    have HB : Hid (Below w.heap.size w w1) := ((Below.refl _ _).alloc (Nat.le_refl _) _).trans (hb.mono (by simp))
    go_wp2_with fail
    refine (C2 _).mono ?_
    rintro x w2 ⟨rfl, rfl⟩
    go_wp2_with fail
    refine (CP _).mono ?_
    rintro x w3 ⟨rfl, rfl⟩
    go_wp2_with fail
    go_ret
    exact ⟨rfl, HB.out⟩
   ·rw [dec_f hh] at C2
    have hp : powI h d n = -1 := powI_no1 (fun x => hh ⟨x.2.1, by have := x.2.2; omega⟩)
    rw [hp]
    clear k hl hp hh k' h0
    go_enter Tryz.func139, Tryz.ntmps139
    go_wp2_with fail
    refine (CK _).mono ?_
    rintro x w1 ⟨rfl, hb⟩
    obtain ⟨hc, hf⟩ := k_bcell hb
    have HB : Hid (Below w.heap.size w w1) := ((Below.refl _ _).alloc (Nat.le_refl _) _).trans (hb.mono (by simp))
    go_wp2_with fail
    refine (C2 _).mono ?_
    rintro x w2 ⟨rfl, rfl⟩
    go_wp2_with fail
    go_ret
    exact ⟨rfl, HB.out⟩
 ·have k : okB n e d = false := by simpa using k
  rw [k] at CK
  have hl : lockI n e d h = -1 := by unfold lockI; rw [lk_ok, k]; simp
  rw [hl]
  clear k hl
  go_enter Tryz.func139, Tryz.ntmps139
  go_wp2_with fail
  refine (CK _).mono ?_
  rintro x w1 ⟨rfl, hb⟩
  go_wp2_with fail
  go_ret
  exact ⟨rfl, ((Below.refl _ _).alloc (Nat.le_refl _) _).trans (hb.mono (by simp))⟩

set_option maxHeartbeats 1000000 in
theorem cOpenedS (n e d h : Int) (w : World) (hE : e <= 9223372036854775807) :
  Calls Tryz.prog 71 #[.agg #[.int .i64 n, .int .i64 e, .int .i64 d], .int .i64 h] w fun x w' => x = .returned (.int .i64 (openI n e d h)) /\ Below w.heap.size w w' := by
 have CK := fun w => cKeyOkS n e d w
 by_cases k : okB n e d = true
 ·have k' : ((2147483648 <= n /\ n <= 3000000000) /\ 3 <= e /\ e < n) /\ (d = 0 \/ 3 <= d /\ d < n) := of_decide_eq_true k
  have hl : openI n e d h = powI h e n := by unfold openI; rw [k]; rfl
  rw [hl]
  rw [k] at CK
  have e1 : wrap64 (n - 1) = n - 1 := IntWalk.wrap64_in _ (by omega)
  have e2 : IntKind.i64.wrap (n - 1) = n - 1 := IntWalk.i64_in _ (by omega)
  have C2 := fun w => cIn5 h 0 (n - 1) w
  by_cases hh : 0 <= h /\ h <= n - 1
  ·rw [dec_t hh] at C2
   have hp : powI h e n = (powOf h.toNat e.toNat n.toNat : Nat) := powI_ok ⟨⟨by omega, by omega⟩, by omega, by omega⟩ (by omega)
   rw [hp]
   obtain ⟨H, rfl⟩ : ∃ A : Nat, h = A := ⟨h.toNat, by omega⟩
   obtain ⟨E, rfl⟩ : ∃ A : Nat, e = A := ⟨e.toNat, by omega⟩
   obtain ⟨N, rfl⟩ : ∃ A : Nat, n = A := ⟨n.toNat, by omega⟩
   simp only [Int.toNat_natCast]
   have CP := fun w => cPowerL H E N w (by omega) (by omega) (by omega) hE
   generalize powOf H E N = R at *
   clear k hl hp k'
   go_enter Tryz.func71, Tryz.ntmps71
   go_wp2_with fail
   refine (CK _).mono ?_
   rintro x w1 ⟨rfl, hb⟩
   obtain ⟨hc, hf⟩ := k_bcell hb
   have HB : Hid (Below w.heap.size w w1) := ((Below.refl _ _).alloc (Nat.le_refl _) _).trans (hb.mono (by simp))
   go_wp2_with fail
   refine (C2 _).mono ?_
   rintro x w2 ⟨rfl, rfl⟩
   go_wp2_with fail
   refine (CP _).mono ?_
   rintro x w3 ⟨rfl, rfl⟩
   go_wp2_with fail
   go_ret
   exact ⟨rfl, HB.out⟩
  ·rw [dec_f hh] at C2
   have hp : powI h e n = -1 := powI_no1 (fun x => hh ⟨x.2.1, by have := x.2.2; omega⟩)
   rw [hp]
   clear k hl hp hh k'
   go_enter Tryz.func71, Tryz.ntmps71
   go_wp2_with fail
   refine (CK _).mono ?_
   rintro x w1 ⟨rfl, hb⟩
   obtain ⟨hc, hf⟩ := k_bcell hb
   have HB : Hid (Below w.heap.size w w1) := ((Below.refl _ _).alloc (Nat.le_refl _) _).trans (hb.mono (by simp))
   go_wp2_with fail
   refine (C2 _).mono ?_
   rintro x w2 ⟨rfl, rfl⟩
   go_wp2_with fail
   go_ret
   exact ⟨rfl, HB.out⟩
 ·have k : okB n e d = false := by simpa using k
  rw [k] at CK
  have hl : openI n e d h = -1 := by unfold openI; rw [k]; simp
  rw [hl]
  clear k hl
  go_enter Tryz.func71, Tryz.ntmps71
  go_wp2_with fail
  refine (CK _).mono ?_
  rintro x w1 ⟨rfl, hb⟩
  go_wp2_with fail
  go_ret
  exact ⟨rfl, ((Below.refl _ _).alloc (Nat.le_refl _) _).trans (hb.mono (by simp))⟩

end Go.Proofs.YtoioiddjbanahaaGreatDoor

namespace Go.Proofs.YtoioiddjbanahaaGreatDoor

open Go.RowKit

theorem canon_few {ts : List Tk} (hT : TreeP ts) (hz : TksSz 1048576 ts) (but : Int) (f k : Nat) (sd : List At) (hk : k < ts.length) : (canonN ts but f k sd).size <= 4000000000 := by
 have h1 := canon_size hT hz but f k sd hk
 have h2 := (endN_le hk).2
 have h50 : ts.length <= 50 := hT.2.1
 have h3 : 70000000 * (endN ts k - k) <= 70000000 * 50 := Nat.mul_le_mul_left _ (by omega)
 omega

noncomputable def sumN (ts : List Tk) (p : Nat) (but : Int) : ByteArray := ⟨(dgL ((hsL (canonN ts but ts.length p []).data.toList : Nat) : Int)).toArray⟩

noncomputable def byN (ts : List Tk) (k : Nat) (n e d : Int) : Bool := open Classical in
 sealN ts k && refersN ts k && decide (sumF (atsJ ts k) = sumN ts (parI ts k).toNat (k : Int)) && decide (openI n e d (sgnF (atsJ ts k)) = ((hsL (spokenF (refF (atsJ ts k)) (sumF (atsJ ts k))).data.toList : Nat) : Int))

theorem spoken_size (r s : ByteArray) : (spokenF r s).size = 4 + r.size + 5 + s.size := by
 unfold spokenF
 rw [ByteArray.size_append, ByteArray.size_append, ByteArray.size_append]
 rfl

theorem box_key (w : World) (x y z : Value) (T : TypeId) : (w.alloc (.cells #[x, y, z] T)).cell? ⟨w.heap.size, 0, none⟩ = some x /\ (w.alloc (.cells #[x, y, z] T)).cell? ⟨w.heap.size, 1, none⟩ = some y /\ (w.alloc (.cells #[x, y, z] T)).cell? ⟨w.heap.size, 2, none⟩ = some z /\ w.heap.size < (w.alloc (.cells #[x, y, z] T)).heap.size := by
 refine ⟨?_, ?_, ?_, by simp⟩
 ·rw [Lib.cell_of_heap (heap_alloc_new w _)]; rfl
 ·rw [Lib.cell_of_heap (heap_alloc_new w _)]; rfl
 ·rw [Lib.cell_of_heap (heap_alloc_new w _)]; rfl

theorem seal_up {ts : List Tk} {k : Nat} (h : refersN ts k = true) : 0 <= parI ts k := by
 unfold refersN at h
 rw [Bool.and_eq_true] at h
 exact of_decide_eq_true h.1

set_option maxRecDepth 4000 in
set_option maxHeartbeats 8000000 in
theorem c_spec_l13By (a : Option Addr) (cap : Nat) (ts : List Tk) (k : Nat) (kn ke kd : Int) (w : World) (hR : TkRow w a ts) (hT : TreeP ts) (hk : k < ts.length) (hn : ts.length <= 1048576) (hz : TksSz 1048576 ts) (hE : ke <= 9223372036854775807) :
  Calls Tryz.prog 29 #[.slice a ts.length cap, .int .i64 (k : Int), .agg #[.int .i64 kn, .int .i64 ke, .int .i64 kd]] w fun e w' => e = .returned (.bool (byN ts k kn ke kd)) /\ Below w.heap.size w w' := by
 have CS := hid (fun wx (hb : Below w.heap.size w wx) => c_spec_l13Seal a cap ts k wx (hR.below hb) hT hk hn hz)
 have CR := hid (fun wx (hb : Below w.heap.size w wx) => c_spec_l13Refers a cap ts k wx (hR.below hb) hT hk hn hz)
 have HBA := hid ((Below.refl w.heap.size w).alloc (Nat.le_refl _) (.cells #[.int .i64 kn, .int .i64 ke, .int .i64 kd] 26))
 have hkn : (k : Int) < (ts.length : Int) := by omega
 cases hs : sealN ts k with
 | false =>
  have HE := hid (show byN ts k kn ke kd = false by unfold byN; rw [hs]; rfl)
  rw [HE.out]
  rw [hs] at CS
  clear hR hT hz HE hs CR
  generalize ts.length = n at *
  go_enter Tryz.func29, Tryz.ntmps29
  go_wp2_with fail
  refine (CS.out _ HBA.out).mono ?_
  rintro e w1 ⟨rfl, hb1⟩
  have HB1 := hid (bb HBA.out hb1)
  clear hb1 CS HBA
  go_wp2_with fail
  go_ret
  exact ⟨rfl, HB1.out⟩
 | true =>
  rw [hs] at CS
  cases hr : refersN ts k with
  | false =>
   have HE := hid (show byN ts k kn ke kd = false by unfold byN; rw [hs, hr]; rfl)
   rw [HE.out]
   rw [hr] at CR
   clear hR hT hz HE hs hr
   generalize ts.length = n at *
   go_enter Tryz.func29, Tryz.ntmps29
   go_wp2_with fail
   refine (CS.out _ HBA.out).mono ?_
   rintro e w1 ⟨rfl, hb1⟩
   have HB1 := hid (bb HBA.out hb1)
   clear hb1 CS HBA
   go_wp2_with fail
   refine (CR.out _ HB1.out).mono ?_
   rintro e w2 ⟨rfl, rfl⟩
   clear CR
   go_wp2_with fail
   go_ret
   exact ⟨rfl, HB1.out⟩
  | true =>
   rw [hr] at CR
   obtain ⟨p, hp⟩ : ∃ p : Nat, parI ts k = p := ⟨(parI ts k).toNat, by have := seal_up hr; omega⟩
   have hpk := up_lt hT hk hp
   have hpl : p < ts.length := by omega
   have HE := hid (show byN ts k kn ke kd = (open Classical in (decide (sumF (atsJ ts k) = sumN ts p (k : Int)) && decide (openI kn ke kd (sgnF (atsJ ts k)) = ((hsL (spokenF (refF (atsJ ts k)) (sumF (atsJ ts k))).data.toList : Nat) : Int)))) by unfold byN; rw [hs, hr, hp]; rfl)
   rw [HE.out]
   have CY := hid (fun wx (hb : Below w.heap.size w wx) => c_spec_l13Says a cap ts k wx (hR.below hb) hk hn hz)
   have CC := hid (fun wx (hb : Below w.heap.size w wx) => c_spec_l11Canon a cap ts (k : Int) hT hz ts.length p [] none 0 wx (hR.below hb) hpl (by omega) (fun j hj => absurd hj (Nat.not_lt_zero _)) (Nat.zero_le _))
   have CH := hid (fun wx => cHashSW (canonN ts (k : Int) ts.length p []) wx (canon_few hT hz _ _ _ _ hpl))
   have CD := hid (fun wx => cDigS ((hsL (canonN ts (k : Int) ts.length p []).data.toList : Nat) : Int) wx)
   have CO := hid (fun wx => cOpenedS kn ke kd (sgnF (atsJ ts k)) wx hE)
   have hz1 := val_sz (ats_sz hz hk) refS
   have hz2 := val_sz (ats_sz hz hk) sumS
   have CP := hid (fun wx => cSpokenS (refF (atsJ ts k)) (sumF (atsJ ts k)) wx hz1 hz2)
   have CQ := hid (fun wx => cHashSW (spokenF (refF (atsJ ts k)) (sumF (atsJ ts k))) wx (by rw [spoken_size]; unfold refF sumF; omega))
   obtain ⟨b, o, ea, c0, -⟩ := hR.kindAt k hk
   have hb0 : b < w.heap.size := by
    obtain ⟨b', o', _, _, e', h', _⟩ := hR k hk
    rw [ea] at e'
    cases e'
    exact h'
   rw [hp] at c0
   subst ea
   have HC0 := hid (fun wx (hb : Below w.heap.size w wx) => (hb.cell (p := ⟨b, o + k * 4, none⟩) hb0).trans c0)
   have hE1 := str_beq (sumF (atsJ ts k)) (sumN ts p (k : Int))
   unfold sumN at hE1 ⊢
   clear hR hT hz HE hs hr hp hz1 hz2 c0 hE
   generalize canonN ts (k : Int) ts.length p [] = CT at *
   generalize hsL CT.data.toList = H1 at *
   generalize (⟨(dgL ((H1 : Nat) : Int)).toArray⟩ : ByteArray) = DT at *
   generalize refF (atsJ ts k) = R at *
   generalize sumF (atsJ ts k) = S at *
   generalize openI kn ke kd (sgnF (atsJ ts k)) = O at *
   generalize sgnF (atsJ ts k) = G at *
   generalize spokenF R S = SP at *
   generalize hsL SP.data.toList = H2 at *
   have hE2 : (O == ((H2 : Nat) : Int)) = decide (O = ((H2 : Nat) : Int)) := by
    by_cases q : O = ((H2 : Nat) : Int)
    ·rw [decide_eq_true q]; simp [q]
    ·rw [decide_eq_false q]; simp [q]
   have HBX := hid (box_key w (.int .i64 kn) (.int .i64 ke) (.int .i64 kd) 26)
   obtain ⟨V, hV⟩ : ∃ V, (open Classical in (decide (S = DT) && decide (O = ((H2 : Nat) : Int)))) = V := ⟨_, rfl⟩
   have HV := hid hV
   rw [hV]
   clear hV
   generalize ts.length = n at *
   go_enter Tryz.func29, Tryz.ntmps29
   go_wp2_with fail
   refine (CS.out _ HBA.out).mono ?_
   rintro e w1 ⟨rfl, hb1⟩
   have HB1 := hid (bb HBA.out hb1)
   have HA1 := hid hb1
   clear hb1 CS
   go_wp2_with fail
   refine (CR.out _ HB1.out).mono ?_
   rintro e w2 ⟨rfl, rfl⟩
   clear CR
   go_wp2_with fail
   refine (CY.out _ HB1.out).mono ?_
   rintro e w2 ⟨rfl, rfl⟩
   clear CY
   have c1 := HC0.out _ HB1.out
   go_wp2_with fail
   refine (CC.out _ HB1.out).mono ?_
   rintro e w2 ⟨rfl, hb2⟩
   have HB2 := hid (bb HB1.out hb2)
   have HA2 := hid (bb HA1.out hb2)
   clear hb2 CC HB1 HA1 c1 HC0
   go_wp2_with fail
   refine (CH.out _).mono ?_
   rintro e w3 ⟨rfl, rfl⟩
   clear CH
   go_wp2_with fail
   refine (CD.out _).mono ?_
   rintro e w3 ⟨rfl, hb3⟩
   have HB3 := hid (bb HB2.out hb3)
   have HA3 := hid (bb HA2.out hb3)
   clear hb3 CD HB2 HA2
   by_cases q : S = DT
   ·rw [decide_eq_true q] at hE1
    have HX := hid (show V = decide (O = ((H2 : Nat) : Int)) by rw [<- HV.out]; simp [q])
    clear HV q
    have d0 := (HA3.out.cell (p := ⟨w.heap.size, 0, none⟩) HBX.out.2.2.2).trans HBX.out.1
    have d1 := (HA3.out.cell (p := ⟨w.heap.size, 1, none⟩) HBX.out.2.2.2).trans HBX.out.2.1
    have d2 := (HA3.out.cell (p := ⟨w.heap.size, 2, none⟩) HBX.out.2.2.2).trans HBX.out.2.2.1
    clear HBX HBA HA3
    generalize decide (O = ((H2 : Nat) : Int)) = Y at *
    go_wp2_with fail
    refine (CO.out _).mono ?_
    rintro e w4 ⟨rfl, hb4⟩
    have HB4 := hid (bb HB3.out hb4)
    clear hb4 CO HB3 d0 d1 d2
    go_wp2_with fail
    refine (CP.out _).mono ?_
    rintro e w5 ⟨rfl, rfl⟩
    clear CP
    go_wp2_with fail
    refine (CQ.out _).mono ?_
    rintro e w5 ⟨rfl, rfl⟩
    clear CQ
    go_wp2_with fail
    go_ret
    exact ⟨by rw [HX.out]; rfl, HB4.out⟩
   ·rw [decide_eq_false q] at hE1
    have HX := hid (show V = false by rw [<- HV.out]; simp [q])
    clear HV q
    go_wp2_with fail
    go_ret
    exact ⟨by rw [HX.out]; rfl, HB3.out⟩

noncomputable def byI (ts : List Tk) (x n e d : Int) : Bool := namesB ts && idsB ts && decide (0 <= x /\ x < ts.length) && byN ts x.toNat n e d

set_option maxHeartbeats 8000000 in
theorem cSealedByS (a : Option Addr) (cap : Nat) (ts : List Tk) (x kn ke kd : Int) (w : World) (hR : TkRow w a ts) (hn : ts.length <= 1048576) (hz : TksSz 1048576 ts) (hE : ke <= 9223372036854775807) :
  Calls Tryz.prog 8 #[.slice a ts.length cap, .int .i64 x, .agg #[.int .i64 kn, .int .i64 ke, .int .i64 kd]] w fun e w' => e = .returned (.bool (byI ts x kn ke kd)) /\ Below w.heap.size w w' := by
 have HBA := hid ((Below.refl w.heap.size w).alloc (Nat.le_refl _) (.cells #[.int .i64 kn, .int .i64 ke, .int .i64 kd] 26))
 have CN := hid (fun wx (hb : Below w.heap.size w wx) => cNamesOkS a cap ts wx (hR.below hb) hn hz)
 have CI := hid (fun wx (hb : Below w.heap.size w wx) => cIdsOkS a cap ts wx (hR.below hb) hn hz)
 cases h1 : namesB ts with
 | false =>
  have HE := hid (show byI ts x kn ke kd = false by unfold byI; rw [h1]; rfl)
  rw [HE.out]
  rw [h1] at CN
  clear hR hz HE h1 CI
  generalize ts.length = n at *
  go_enter Tryz.func8, Tryz.ntmps8
  go_wp2_with fail
  refine (CN.out _ HBA.out).mono ?_
  rintro e w1 ⟨rfl, hb1⟩
  have HB1 := hid (bb HBA.out hb1)
  clear hb1 CN HBA
  go_wp2_with fail
  go_ret
  exact ⟨rfl, HB1.out⟩
 | true =>
  rw [h1] at CN
  cases h2 : idsB ts with
  | false =>
   have HE := hid (show byI ts x kn ke kd = false by unfold byI; rw [h1, h2]; rfl)
   rw [HE.out]
   rw [h2] at CI
   clear hR hz HE h1 h2
   generalize ts.length = n at *
   go_enter Tryz.func8, Tryz.ntmps8
   go_wp2_with fail
   refine (CN.out _ HBA.out).mono ?_
   rintro e w1 ⟨rfl, hb1⟩
   have HB1 := hid (bb HBA.out hb1)
   clear hb1 CN HBA
   go_wp2_with fail
   refine (CI.out _ HB1.out).mono ?_
   rintro e w2 ⟨rfl, hb2⟩
   have HB2 := hid (bb HB1.out hb2)
   clear hb2 CI HB1
   go_wp2_with fail
   go_ret
   exact ⟨rfl, HB2.out⟩
  | true =>
   rw [h2] at CI
   by_cases hx : 0 <= x /\ x < ts.length
   case neg =>
    have HE := hid (show byI ts x kn ke kd = false by unfold byI; rw [h1, h2, decide_eq_false hx]; rfl)
    rw [HE.out]
    clear hR hz HE h1 h2
    generalize ts.length = n at *
    by_cases h0 : 0 <= x
    ·have e0 : decide (0 <= x) = true := decide_eq_true h0
     have e1 : decide (x < (n : Int)) = false := decide_eq_false (fun h => hx ⟨h0, h⟩)
     clear hx h0
     go_enter Tryz.func8, Tryz.ntmps8
     go_wp2_with fail
     refine (CN.out _ HBA.out).mono ?_
     rintro e w1 ⟨rfl, hb1⟩
     have HB1 := hid (bb HBA.out hb1)
     clear hb1 CN HBA
     go_wp2_with fail
     refine (CI.out _ HB1.out).mono ?_
     rintro e w2 ⟨rfl, hb2⟩
     have HB2 := hid (bb HB1.out hb2)
     clear hb2 CI HB1
     go_wp2_with fail
     go_ret
     exact ⟨rfl, HB2.out⟩
    ·have e0 : decide (0 <= x) = false := decide_eq_false h0
     clear hx h0
     go_enter Tryz.func8, Tryz.ntmps8
     go_wp2_with fail
     refine (CN.out _ HBA.out).mono ?_
     rintro e w1 ⟨rfl, hb1⟩
     have HB1 := hid (bb HBA.out hb1)
     clear hb1 CN HBA
     go_wp2_with fail
     refine (CI.out _ HB1.out).mono ?_
     rintro e w2 ⟨rfl, hb2⟩
     have HB2 := hid (bb HB1.out hb2)
     clear hb2 CI HB1
     go_wp2_with fail
     go_ret
     exact ⟨rfl, HB2.out⟩
   case pos =>
    obtain ⟨k, rfl⟩ : ∃ k : Nat, x = k := ⟨x.toNat, by omega⟩
    have hk : k < ts.length := by omega
    have HE := hid (show byI ts (k : Int) kn ke kd = byN ts k kn ke kd by unfold byI; rw [h1, h2, decide_eq_true hx]; rfl)
    rw [HE.out]
    have hT : TreeP ts := by
     by_cases hN : NamesP ts
     ·exact hN.1
     ·rw [namesB_f hN] at h1; cases h1
    have CB := hid (fun wx (hb : Below w.heap.size w wx) => c_spec_l13By a cap ts k kn ke kd wx (hR.below hb) hT hk hn hz hE)
    have HBX := hid (box_key w (.int .i64 kn) (.int .i64 ke) (.int .i64 kd) 26)
    have e0 : decide (0 <= (k : Int)) = true := decide_eq_true hx.1
    have e1 : (k : Int) < (ts.length : Int) := hx.2
    clear hR hz HE h1 h2 hx hT hE hk
    generalize byN ts k kn ke kd = Y at *
    generalize ts.length = n at *
    go_enter Tryz.func8, Tryz.ntmps8
    go_wp2_with fail
    refine (CN.out _ HBA.out).mono ?_
    rintro e w1 ⟨rfl, hb1⟩
    have HB1 := hid (bb HBA.out hb1)
    have HA1 := hid hb1
    clear hb1 CN HBA
    go_wp2_with fail
    refine (CI.out _ HB1.out).mono ?_
    rintro e w2 ⟨rfl, hb2⟩
    have HB2 := hid (bb HB1.out hb2)
    have HA2 := hid (bb HA1.out hb2)
    clear hb2 CI HB1 HA1
    have d0 := (HA2.out.cell (p := ⟨w.heap.size, 0, none⟩) HBX.out.2.2.2).trans HBX.out.1
    have d1 := (HA2.out.cell (p := ⟨w.heap.size, 1, none⟩) HBX.out.2.2.2).trans HBX.out.2.1
    have d2 := (HA2.out.cell (p := ⟨w.heap.size, 2, none⟩) HBX.out.2.2.2).trans HBX.out.2.2.1
    clear HBX HA2
    go_wp2_with fail
    refine (CB.out _ HB2.out).mono ?_
    rintro e w3 ⟨rfl, hb3⟩
    have HB3 := hid (bb HB2.out hb3)
    clear hb3 CB HB2 d0 d1 d2
    go_wp2_with fail
    go_ret
    exact ⟨rfl, HB3.out⟩

end Go.Proofs.YtoioiddjbanahaaGreatDoor
