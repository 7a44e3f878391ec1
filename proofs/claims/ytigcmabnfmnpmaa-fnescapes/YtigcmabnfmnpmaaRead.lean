/- Contracts of impl.readSign: what readL reads. -/
import Derived.Test.YtigcmabnfmnpmaaRows
import Derived.Test.YtigcmabnfmnpmaaMathU
import Derived.Test.YtigcmabnfmnpmaaShelf
import Derived.Test.YtigcmabnfmnpmaaSigns
import Derived.WalkKit
namespace Go.Proofs.Ytigcmabnfmnpmaa
open Go.RowKit
set_option linter.unusedVariables false
set_option linter.unusedSimpArgs false

theorem r38 (w : World) : Calls Try.prog 32 #[.int .u8 38] w fun e w' => e = .returned (.string ⟨#[38, 97, 109, 112, 59]⟩) ∧ w' = w := c32_amp 38 w (by decide) (by decide)
theorem hp_amp (t : ByteArray) (b : Bool) (h : amp.isPrefixOf t.data.toList = b) (w : World) : Calls Try.prog 35 #[.string t, .string ⟨#[38, 97, 109, 112, 59]⟩] w fun e w' => e = .returned (.bool b) ∧ w' = w := by
  refine (Try.strings_HasPrefix t ⟨#[38, 97, 109, 112, 59]⟩ w).mono ?_
  rintro e w' ⟨rfl, rfl⟩
  exact ⟨by rw [← h]; rfl, rfl⟩

theorem r60 (w : World) : Calls Try.prog 32 #[.int .u8 60] w fun e w' => e = .returned (.string ⟨#[38, 108, 116, 59]⟩) ∧ w' = w := c32_lt 60 w (by decide) (by decide)
theorem hp_lt (t : ByteArray) (b : Bool) (h : lt.isPrefixOf t.data.toList = b) (w : World) : Calls Try.prog 35 #[.string t, .string ⟨#[38, 108, 116, 59]⟩] w fun e w' => e = .returned (.bool b) ∧ w' = w := by
  refine (Try.strings_HasPrefix t ⟨#[38, 108, 116, 59]⟩ w).mono ?_
  rintro e w' ⟨rfl, rfl⟩
  exact ⟨by rw [← h]; rfl, rfl⟩

theorem r62 (w : World) : Calls Try.prog 32 #[.int .u8 62] w fun e w' => e = .returned (.string ⟨#[38, 103, 116, 59]⟩) ∧ w' = w := c32_gt 62 w (by decide) (by decide)
theorem hp_gt (t : ByteArray) (b : Bool) (h : gt.isPrefixOf t.data.toList = b) (w : World) : Calls Try.prog 35 #[.string t, .string ⟨#[38, 103, 116, 59]⟩] w fun e w' => e = .returned (.bool b) ∧ w' = w := by
  refine (Try.strings_HasPrefix t ⟨#[38, 103, 116, 59]⟩ w).mono ?_
  rintro e w' ⟨rfl, rfl⟩
  exact ⟨by rw [← h]; rfl, rfl⟩

theorem r34 (w : World) : Calls Try.prog 32 #[.int .u8 34] w fun e w' => e = .returned (.string ⟨#[38, 113, 117, 111, 116, 59]⟩) ∧ w' = w := c32_quot 34 w (by decide) (by decide)
theorem hp_quot (t : ByteArray) (b : Bool) (h : quot.isPrefixOf t.data.toList = b) (w : World) : Calls Try.prog 35 #[.string t, .string ⟨#[38, 113, 117, 111, 116, 59]⟩] w fun e w' => e = .returned (.bool b) ∧ w' = w := by
  refine (Try.strings_HasPrefix t ⟨#[38, 113, 117, 111, 116, 59]⟩ w).mono ?_
  rintro e w' ⟨rfl, rfl⟩
  exact ⟨by rw [← h]; rfl, rfl⟩

def meas (v : Value) : Nat := 4 - (intOf v).toNat

theorem c25_plain (t : ByteArray) (w : World) (ht : 0 < t.size) (hm : t.size ≤ 9223372036854775807) (h : ¬ (t[0].toNat : Int) = 38) :
    Calls Try.prog 25 #[.string t] w fun e w' => e = .returned (.tuple #[.int .u8 t[0].toNat, .int .i64 1]) ∧ w' = w := by
  go_enter Try.func25, Try.ntmps25
  go_wp2
  go_ret2
  exact ⟨rfl, rfl⟩

set_option maxHeartbeats 1000000 in
theorem c25_amp (t : ByteArray) (w : World) (ht : 0 < t.size) (hm : t.size ≤ 9223372036854775807) (g0 : (t[0].toNat : Int) ≤ 38) (g1 : (38 : Int) ≤ t[0].toNat) (P0 : amp.isPrefixOf t.data.toList = true) :
    Calls Try.prog 25 #[.string t] w fun e w' => e = .returned (.tuple #[.int .u8 38, .int .i64 5]) ∧ w' = w := by
  have Q0 : Hid (amp.isPrefixOf t.data.toList = true) := P0
  clear P0
  have i0 : ∀ w, (Instr.index 60 (.agg #[.int .u8 38, .int .u8 60, .int .u8 62, .int .u8 34]) (.int .i64 0)).run Try.prog w = .ok (.int .u8 38) w := fun _ => by kernel_rfl
  have hb : ((t[0].toNat : Int) != 38) = false := by simp; omega
  clear g0 g1
  go_enter Try.func25, Try.ntmps25
  go_wp2
  go_loopw [13] (fun i wr => ∃ k : Nat, k ≤ 0 ∧ i = .int .i64 k ∧ wr = w) (fun i _ => meas i)
  case atStart => exact ⟨0, Nat.zero_le _, rfl, rfl⟩
  case round =>
    obtain ⟨k, hk, rfl, hwr⟩ := hrel
    obtain rfl := hwr.symm
    rcases (show k = 0 from by omega) with rfl
    · go_wp2_with (first | (go_at_call 32; refine (r38 _).mono ?_; rintro e w1 ⟨rfl, hw1⟩; obtain rfl := hw1.symm) | (go_at_call 35; refine (hp_amp t _ Q0.out _).mono ?_; rintro e w1 ⟨rfl, hw1⟩; obtain rfl := hw1.symm))
      go_ret2
      exact ⟨rfl, rfl⟩

set_option maxHeartbeats 1000000 in
theorem c25_lt (t : ByteArray) (w : World) (ht : 0 < t.size) (hm : t.size ≤ 9223372036854775807) (g0 : (t[0].toNat : Int) ≤ 38) (g1 : (38 : Int) ≤ t[0].toNat) (P0 : amp.isPrefixOf t.data.toList = false) (P1 : lt.isPrefixOf t.data.toList = true) :
    Calls Try.prog 25 #[.string t] w fun e w' => e = .returned (.tuple #[.int .u8 60, .int .i64 4]) ∧ w' = w := by
  have Q0 : Hid (amp.isPrefixOf t.data.toList = false) := P0
  have Q1 : Hid (lt.isPrefixOf t.data.toList = true) := P1
  clear P0 P1
  have i0 : ∀ w, (Instr.index 60 (.agg #[.int .u8 38, .int .u8 60, .int .u8 62, .int .u8 34]) (.int .i64 0)).run Try.prog w = .ok (.int .u8 38) w := fun _ => by kernel_rfl
  have i1 : ∀ w, (Instr.index 60 (.agg #[.int .u8 38, .int .u8 60, .int .u8 62, .int .u8 34]) (.int .i64 1)).run Try.prog w = .ok (.int .u8 60) w := fun _ => by kernel_rfl
  have hb : ((t[0].toNat : Int) != 38) = false := by simp; omega
  clear g0 g1
  go_enter Try.func25, Try.ntmps25
  go_wp2
  go_loopw [13] (fun i wr => ∃ k : Nat, k ≤ 1 ∧ i = .int .i64 k ∧ wr = w) (fun i _ => meas i)
  case atStart => exact ⟨0, Nat.zero_le _, rfl, rfl⟩
  case round =>
    obtain ⟨k, hk, rfl, hwr⟩ := hrel
    obtain rfl := hwr.symm
    rcases (show k = 0 ∨ k = 1 from by omega) with rfl | rfl
    · go_wp2_with (first | (go_at_call 32; refine (r38 _).mono ?_; rintro e w1 ⟨rfl, hw1⟩; obtain rfl := hw1.symm) | (go_at_call 35; refine (hp_amp t _ Q0.out _).mono ?_; rintro e w1 ⟨rfl, hw1⟩; obtain rfl := hw1.symm))
      go_roundw
      case rel => exact ⟨1, by omega, by go_num, trivial⟩
      case measure => simp [meas, intOf]
    · go_wp2_with (first | (go_at_call 32; refine (r60 _).mono ?_; rintro e w1 ⟨rfl, hw1⟩; obtain rfl := hw1.symm) | (go_at_call 35; refine (hp_lt t _ Q1.out _).mono ?_; rintro e w1 ⟨rfl, hw1⟩; obtain rfl := hw1.symm))
      go_ret2
      exact ⟨rfl, rfl⟩

set_option maxHeartbeats 1000000 in
theorem c25_gt (t : ByteArray) (w : World) (ht : 0 < t.size) (hm : t.size ≤ 9223372036854775807) (g0 : (t[0].toNat : Int) ≤ 38) (g1 : (38 : Int) ≤ t[0].toNat) (P0 : amp.isPrefixOf t.data.toList = false) (P1 : lt.isPrefixOf t.data.toList = false) (P2 : gt.isPrefixOf t.data.toList = true) :
    Calls Try.prog 25 #[.string t] w fun e w' => e = .returned (.tuple #[.int .u8 62, .int .i64 4]) ∧ w' = w := by
  have Q0 : Hid (amp.isPrefixOf t.data.toList = false) := P0
  have Q1 : Hid (lt.isPrefixOf t.data.toList = false) := P1
  have Q2 : Hid (gt.isPrefixOf t.data.toList = true) := P2
  clear P0 P1 P2
  have i0 : ∀ w, (Instr.index 60 (.agg #[.int .u8 38, .int .u8 60, .int .u8 62, .int .u8 34]) (.int .i64 0)).run Try.prog w = .ok (.int .u8 38) w := fun _ => by kernel_rfl
  have i1 : ∀ w, (Instr.index 60 (.agg #[.int .u8 38, .int .u8 60, .int .u8 62, .int .u8 34]) (.int .i64 1)).run Try.prog w = .ok (.int .u8 60) w := fun _ => by kernel_rfl
  have i2 : ∀ w, (Instr.index 60 (.agg #[.int .u8 38, .int .u8 60, .int .u8 62, .int .u8 34]) (.int .i64 2)).run Try.prog w = .ok (.int .u8 62) w := fun _ => by kernel_rfl
  have hb : ((t[0].toNat : Int) != 38) = false := by simp; omega
  clear g0 g1
  go_enter Try.func25, Try.ntmps25
  go_wp2
  go_loopw [13] (fun i wr => ∃ k : Nat, k ≤ 2 ∧ i = .int .i64 k ∧ wr = w) (fun i _ => meas i)
  case atStart => exact ⟨0, Nat.zero_le _, rfl, rfl⟩
  case round =>
    obtain ⟨k, hk, rfl, hwr⟩ := hrel
    obtain rfl := hwr.symm
    rcases (show k = 0 ∨ k = 1 ∨ k = 2 from by omega) with rfl | rfl | rfl
    · go_wp2_with (first | (go_at_call 32; refine (r38 _).mono ?_; rintro e w1 ⟨rfl, hw1⟩; obtain rfl := hw1.symm) | (go_at_call 35; refine (hp_amp t _ Q0.out _).mono ?_; rintro e w1 ⟨rfl, hw1⟩; obtain rfl := hw1.symm))
      go_roundw
      case rel => exact ⟨1, by omega, by go_num, trivial⟩
      case measure => simp [meas, intOf]
    · go_wp2_with (first | (go_at_call 32; refine (r60 _).mono ?_; rintro e w1 ⟨rfl, hw1⟩; obtain rfl := hw1.symm) | (go_at_call 35; refine (hp_lt t _ Q1.out _).mono ?_; rintro e w1 ⟨rfl, hw1⟩; obtain rfl := hw1.symm))
      go_roundw
      case rel => exact ⟨2, by omega, by go_num, trivial⟩
      case measure => simp [meas, intOf]
    · go_wp2_with (first | (go_at_call 32; refine (r62 _).mono ?_; rintro e w1 ⟨rfl, hw1⟩; obtain rfl := hw1.symm) | (go_at_call 35; refine (hp_gt t _ Q2.out _).mono ?_; rintro e w1 ⟨rfl, hw1⟩; obtain rfl := hw1.symm))
      go_ret2
      exact ⟨rfl, rfl⟩

set_option maxHeartbeats 1000000 in
theorem c25_quot (t : ByteArray) (w : World) (ht : 0 < t.size) (hm : t.size ≤ 9223372036854775807) (g0 : (t[0].toNat : Int) ≤ 38) (g1 : (38 : Int) ≤ t[0].toNat) (P0 : amp.isPrefixOf t.data.toList = false) (P1 : lt.isPrefixOf t.data.toList = false) (P2 : gt.isPrefixOf t.data.toList = false) (P3 : quot.isPrefixOf t.data.toList = true) :
    Calls Try.prog 25 #[.string t] w fun e w' => e = .returned (.tuple #[.int .u8 34, .int .i64 6]) ∧ w' = w := by
  have Q0 : Hid (amp.isPrefixOf t.data.toList = false) := P0
  have Q1 : Hid (lt.isPrefixOf t.data.toList = false) := P1
  have Q2 : Hid (gt.isPrefixOf t.data.toList = false) := P2
  have Q3 : Hid (quot.isPrefixOf t.data.toList = true) := P3
  clear P0 P1 P2 P3
  have i0 : ∀ w, (Instr.index 60 (.agg #[.int .u8 38, .int .u8 60, .int .u8 62, .int .u8 34]) (.int .i64 0)).run Try.prog w = .ok (.int .u8 38) w := fun _ => by kernel_rfl
  have i1 : ∀ w, (Instr.index 60 (.agg #[.int .u8 38, .int .u8 60, .int .u8 62, .int .u8 34]) (.int .i64 1)).run Try.prog w = .ok (.int .u8 60) w := fun _ => by kernel_rfl
  have i2 : ∀ w, (Instr.index 60 (.agg #[.int .u8 38, .int .u8 60, .int .u8 62, .int .u8 34]) (.int .i64 2)).run Try.prog w = .ok (.int .u8 62) w := fun _ => by kernel_rfl
  have i3 : ∀ w, (Instr.index 60 (.agg #[.int .u8 38, .int .u8 60, .int .u8 62, .int .u8 34]) (.int .i64 3)).run Try.prog w = .ok (.int .u8 34) w := fun _ => by kernel_rfl
  have hb : ((t[0].toNat : Int) != 38) = false := by simp; omega
  clear g0 g1
  go_enter Try.func25, Try.ntmps25
  go_wp2
  go_loopw [13] (fun i wr => ∃ k : Nat, k ≤ 3 ∧ i = .int .i64 k ∧ wr = w) (fun i _ => meas i)
  case atStart => exact ⟨0, Nat.zero_le _, rfl, rfl⟩
  case round =>
    obtain ⟨k, hk, rfl, hwr⟩ := hrel
    obtain rfl := hwr.symm
    rcases (show k = 0 ∨ k = 1 ∨ k = 2 ∨ k = 3 from by omega) with rfl | rfl | rfl | rfl
    · go_wp2_with (first | (go_at_call 32; refine (r38 _).mono ?_; rintro e w1 ⟨rfl, hw1⟩; obtain rfl := hw1.symm) | (go_at_call 35; refine (hp_amp t _ Q0.out _).mono ?_; rintro e w1 ⟨rfl, hw1⟩; obtain rfl := hw1.symm))
      go_roundw
      case rel => exact ⟨1, by omega, by go_num, trivial⟩
      case measure => simp [meas, intOf]
    · go_wp2_with (first | (go_at_call 32; refine (r60 _).mono ?_; rintro e w1 ⟨rfl, hw1⟩; obtain rfl := hw1.symm) | (go_at_call 35; refine (hp_lt t _ Q1.out _).mono ?_; rintro e w1 ⟨rfl, hw1⟩; obtain rfl := hw1.symm))
      go_roundw
      case rel => exact ⟨2, by omega, by go_num, trivial⟩
      case measure => simp [meas, intOf]
    · go_wp2_with (first | (go_at_call 32; refine (r62 _).mono ?_; rintro e w1 ⟨rfl, hw1⟩; obtain rfl := hw1.symm) | (go_at_call 35; refine (hp_gt t _ Q2.out _).mono ?_; rintro e w1 ⟨rfl, hw1⟩; obtain rfl := hw1.symm))
      go_roundw
      case rel => exact ⟨3, by omega, by go_num, trivial⟩
      case measure => simp [meas, intOf]
    · go_wp2_with (first | (go_at_call 32; refine (r34 _).mono ?_; rintro e w1 ⟨rfl, hw1⟩; obtain rfl := hw1.symm) | (go_at_call 35; refine (hp_quot t _ Q3.out _).mono ?_; rintro e w1 ⟨rfl, hw1⟩; obtain rfl := hw1.symm))
      go_ret2
      exact ⟨rfl, rfl⟩

set_option maxHeartbeats 1000000 in
theorem c25_none (t : ByteArray) (w : World) (ht : 0 < t.size) (hm : t.size ≤ 9223372036854775807) (g0 : (t[0].toNat : Int) ≤ 38) (g1 : (38 : Int) ≤ t[0].toNat) (P0 : amp.isPrefixOf t.data.toList = false) (P1 : lt.isPrefixOf t.data.toList = false) (P2 : gt.isPrefixOf t.data.toList = false) (P3 : quot.isPrefixOf t.data.toList = false) :
    Calls Try.prog 25 #[.string t] w fun e w' => e = .returned (.tuple #[.int .u8 0, .int .i64 0]) ∧ w' = w := by
  have Q0 : Hid (amp.isPrefixOf t.data.toList = false) := P0
  have Q1 : Hid (lt.isPrefixOf t.data.toList = false) := P1
  have Q2 : Hid (gt.isPrefixOf t.data.toList = false) := P2
  have Q3 : Hid (quot.isPrefixOf t.data.toList = false) := P3
  clear P0 P1 P2 P3
  have i0 : ∀ w, (Instr.index 60 (.agg #[.int .u8 38, .int .u8 60, .int .u8 62, .int .u8 34]) (.int .i64 0)).run Try.prog w = .ok (.int .u8 38) w := fun _ => by kernel_rfl
  have i1 : ∀ w, (Instr.index 60 (.agg #[.int .u8 38, .int .u8 60, .int .u8 62, .int .u8 34]) (.int .i64 1)).run Try.prog w = .ok (.int .u8 60) w := fun _ => by kernel_rfl
  have i2 : ∀ w, (Instr.index 60 (.agg #[.int .u8 38, .int .u8 60, .int .u8 62, .int .u8 34]) (.int .i64 2)).run Try.prog w = .ok (.int .u8 62) w := fun _ => by kernel_rfl
  have i3 : ∀ w, (Instr.index 60 (.agg #[.int .u8 38, .int .u8 60, .int .u8 62, .int .u8 34]) (.int .i64 3)).run Try.prog w = .ok (.int .u8 34) w := fun _ => by kernel_rfl
  have hb : ((t[0].toNat : Int) != 38) = false := by simp; omega
  clear g0 g1
  go_enter Try.func25, Try.ntmps25
  go_wp2
  go_loopw [13] (fun i wr => ∃ k : Nat, k ≤ 4 ∧ i = .int .i64 k ∧ wr = w) (fun i _ => meas i)
  case atStart => exact ⟨0, Nat.zero_le _, rfl, rfl⟩
  case round =>
    obtain ⟨k, hk, rfl, hwr⟩ := hrel
    obtain rfl := hwr.symm
    rcases (show k = 0 ∨ k = 1 ∨ k = 2 ∨ k = 3 ∨ k = 4 from by omega) with rfl | rfl | rfl | rfl | rfl
    · go_wp2_with (first | (go_at_call 32; refine (r38 _).mono ?_; rintro e w1 ⟨rfl, hw1⟩; obtain rfl := hw1.symm) | (go_at_call 35; refine (hp_amp t _ Q0.out _).mono ?_; rintro e w1 ⟨rfl, hw1⟩; obtain rfl := hw1.symm))
      go_roundw
      case rel => exact ⟨1, by omega, by go_num, trivial⟩
      case measure => simp [meas, intOf]
    · go_wp2_with (first | (go_at_call 32; refine (r60 _).mono ?_; rintro e w1 ⟨rfl, hw1⟩; obtain rfl := hw1.symm) | (go_at_call 35; refine (hp_lt t _ Q1.out _).mono ?_; rintro e w1 ⟨rfl, hw1⟩; obtain rfl := hw1.symm))
      go_roundw
      case rel => exact ⟨2, by omega, by go_num, trivial⟩
      case measure => simp [meas, intOf]
    · go_wp2_with (first | (go_at_call 32; refine (r62 _).mono ?_; rintro e w1 ⟨rfl, hw1⟩; obtain rfl := hw1.symm) | (go_at_call 35; refine (hp_gt t _ Q2.out _).mono ?_; rintro e w1 ⟨rfl, hw1⟩; obtain rfl := hw1.symm))
      go_roundw
      case rel => exact ⟨3, by omega, by go_num, trivial⟩
      case measure => simp [meas, intOf]
    · go_wp2_with (first | (go_at_call 32; refine (r34 _).mono ?_; rintro e w1 ⟨rfl, hw1⟩; obtain rfl := hw1.symm) | (go_at_call 35; refine (hp_quot t _ Q3.out _).mono ?_; rintro e w1 ⟨rfl, hw1⟩; obtain rfl := hw1.symm))
      go_roundw
      case rel => exact ⟨4, by omega, by go_num, trivial⟩
      case measure => simp [meas, intOf]
    · go_wp2
      go_ret2
      exact ⟨rfl, rfl⟩

theorem c25_some (t : ByteArray) (w : World) (ht : 0 < t.size) (hm : t.size ≤ 9223372036854775807) (x : UInt8) (k : Nat) (h : readL t.data.toList = some (x, k)) :
    Calls Try.prog 25 #[.string t] w fun e w' => e = .returned (.tuple #[.int .u8 x.toNat, .int .i64 k]) ∧ w' = w := by
  have hd : ∃ r, t.data.toList = t[0] :: r := by
    have hl : 0 < t.data.toList.length := ht
    cases hh : t.data.toList with
    | nil => rw [hh] at hl; simp at hl
    | cons c r =>
      have : t[0] = c := by
        have e : t[0] = t.data.toList[0] := rfl
        rw [e]; simp [hh]
      exact ⟨r, by rw [this]⟩
  obtain ⟨r, hr⟩ := hd
  by_cases hc : (t[0].toNat : Int) = 38
  · have g0 : (t[0].toNat : Int) ≤ 38 := by omega
    have g1 : (38 : Int) ≤ t[0].toNat := by omega
    cases P0 : amp.isPrefixOf t.data.toList with
    | true =>
      rw [readL_amp _ P0] at h; simp at h; obtain ⟨rfl, rfl⟩ := h
      exact c25_amp t w ht hm g0 g1 P0
    | false =>
      cases P1 : lt.isPrefixOf t.data.toList with
      | true =>
        rw [readL_lt _ P0 P1] at h; simp at h; obtain ⟨rfl, rfl⟩ := h
        exact c25_lt t w ht hm g0 g1 P0 P1
      | false =>
        cases P2 : gt.isPrefixOf t.data.toList with
        | true =>
          rw [readL_gt _ P0 P1 P2] at h; simp at h; obtain ⟨rfl, rfl⟩ := h
          exact c25_gt t w ht hm g0 g1 P0 P1 P2
        | false =>
          cases P3 : quot.isPrefixOf t.data.toList with
          | true =>
            rw [readL_quot _ P0 P1 P2 P3] at h; simp at h; obtain ⟨rfl, rfl⟩ := h
            exact c25_quot t w ht hm g0 g1 P0 P1 P2 P3
          | false =>
            rw [hr] at h P0 P1 P2 P3
            rw [readL_none _ _ (by omega) P0 P1 P2 P3] at h
            simp at h
  · rw [hr, readL_plain _ _ (by omega)] at h
    simp at h; obtain ⟨rfl, rfl⟩ := h
    exact c25_plain t w ht hm hc

theorem c25_no (t : ByteArray) (w : World) (ht : 0 < t.size) (hm : t.size ≤ 9223372036854775807) (h : readL t.data.toList = none) :
    Calls Try.prog 25 #[.string t] w fun e w' => e = .returned (.tuple #[.int .u8 0, .int .i64 0]) ∧ w' = w := by
  have hd : ∃ r, t.data.toList = t[0] :: r := by
    have hl : 0 < t.data.toList.length := ht
    cases hh : t.data.toList with
    | nil => rw [hh] at hl; simp at hl
    | cons c r =>
      have : t[0] = c := by
        have e : t[0] = t.data.toList[0] := rfl
        rw [e]; simp [hh]
      exact ⟨r, by rw [this]⟩
  obtain ⟨r, hr⟩ := hd
  by_cases hc : (t[0].toNat : Int) = 38
  · have g0 : (t[0].toNat : Int) ≤ 38 := by omega
    have g1 : (38 : Int) ≤ t[0].toNat := by omega
    cases P0 : amp.isPrefixOf t.data.toList with
    | true => rw [readL_amp _ P0] at h; simp at h
    | false =>
      cases P1 : lt.isPrefixOf t.data.toList with
      | true => rw [readL_lt _ P0 P1] at h; simp at h
      | false =>
        cases P2 : gt.isPrefixOf t.data.toList with
        | true => rw [readL_gt _ P0 P1 P2] at h; simp at h
        | false =>
          cases P3 : quot.isPrefixOf t.data.toList with
          | true => rw [readL_quot _ P0 P1 P2 P3] at h; simp at h
          | false => exact c25_none t w ht hm g0 g1 P0 P1 P2 P3
  · rw [hr, readL_plain _ _ (by omega)] at h
    simp at h

end Go.Proofs.Ytigcmabnfmnpmaa
