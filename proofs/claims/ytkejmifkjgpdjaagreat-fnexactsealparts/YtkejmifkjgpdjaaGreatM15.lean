/- Contracts of Number, of the program and of the specification. Contracts of the methods by which a sign is written: reference, itself, inText, inQuotes. What is spoken by a seal; contracts of Spoken, the specification's and the program's. -/
import Derived.Test.YtkejmifkjgpdjaaGreatM14
import Derived.Test.YtkejmifkjgpdjaaGreatRows
import Derived.Test.YtkejmifkjgpdjaaGreatM6
import Derived.Test.YtkejmifkjgpdjaaGreatM1
import Derived.WalkKit
namespace Go.Proofs.YtkejmifkjgpdjaaGreat
open Go.RowKit
set_option linter.unusedVariables false
set_option linter.unusedSimpArgs false

/-- The number that ten digits tell, and whether they do. -/
def numOf (l : List UInt8) : Int × Bool := if l.length = 10 ∧ l.all isDig = true then ((valD l : Int), true) else (0, false)

theorem cNumI (b : ByteArray) (w : World) (hb : b.size ≤ 1048576) :
    Calls Tryz.prog 121 #[.string b] w fun e w' => e = .returned (.tuple #[.int .i64 (numOf b.data.toList).1, .bool (numOf b.data.toList).2]) ∧ w' = w := by
  by_cases h10 : b.size = 10
  · have hl : b.data.toList.length = 10 := by rw [← dig_sz]; exact h10
    have C := fun w => cDigitsI b w (by omega)
    have e : numOf b.data.toList = ((if b.data.toList.all isDig = true then (valD b.data.toList : Int) else 0), b.data.toList.all isDig) := by
      unfold numOf
      by_cases h : b.data.toList.all isDig = true
      · simp [h, hl]
      · simp [h]
    rw [e]
    simp only
    generalize (if b.data.toList.all isDig = true then (valD b.data.toList : Int) else 0) = X at *
    generalize b.data.toList.all isDig = Y at *
    have hq : ((b.size : Int) != 10) = false := by simp; omega
    clear e hl h10
    go_enter Tryz.func121, Tryz.ntmps121
    go_wp2_with fail
    refine (C _).mono ?_
    rintro e w' ⟨rfl, rfl⟩
    go_wp2_with fail
    go_ret2
    exact ⟨rfl, rfl⟩
  · have e : numOf b.data.toList = (0, false) := by
      unfold numOf
      rw [if_neg]
      rintro ⟨h, _⟩
      rw [← dig_sz] at h
      exact h10 h
    rw [e]
    simp only
    have hq : ((b.size : Int) != 10) = true := by simp; omega
    clear e h10
    go_enter Tryz.func121, Tryz.ntmps121
    go_wp2_with fail
    go_ret2
    exact ⟨rfl, rfl⟩

theorem cNumS (b : ByteArray) (w : World) (hb : b.size ≤ 1048576) :
    Calls Tryz.prog 39 #[.string b] w fun e w' => e = .returned (.tuple #[.int .i64 (numOf b.data.toList).1, .bool (numOf b.data.toList).2]) ∧ w' = w := by
  by_cases h10 : b.size = 10
  · have hl : b.data.toList.length = 10 := by rw [← dig_sz]; exact h10
    have C := fun w => cDigitsS b 0 10 w (by omega) (by omega) hb
    rw [List.drop_zero, List.take_of_length_le (by omega)] at C
    have hq : ((b.size : Int) != 10) = false := by simp; omega
    by_cases h : b.data.toList.all isDig = true
    · have e : numOf b.data.toList = ((valD b.data.toList : Int), true) := by
        unfold numOf
        rw [if_pos ⟨hl, h⟩]
      have e2 : rdI b.data.toList = (valD b.data.toList : Int) := by unfold rdI; rw [if_pos h]
      rw [e2] at C
      rw [e]
      simp only
      generalize valD b.data.toList = X at *
      have hx : ¬ ((X : Int) < 0) := by omega
      clear e hl h10 h e2
      go_enter Tryz.func39, Tryz.ntmps39
      go_wp2_with fail
      refine (C _).mono ?_
      rintro e w' ⟨rfl, rfl⟩
      go_wp2_with fail
      refine (C _).mono ?_
      rintro e w' ⟨rfl, rfl⟩
      go_wp2_with fail
      go_ret2
      exact ⟨rfl, rfl⟩
    · have e : numOf b.data.toList = (0, false) := by
        unfold numOf
        rw [if_neg (fun x => h x.2)]
      have e2 : rdI b.data.toList = -1 := by unfold rdI; rw [if_neg h]
      rw [e2] at C
      rw [e]
      simp only
      clear e hl h10 h e2
      go_enter Tryz.func39, Tryz.ntmps39
      go_wp2_with fail
      refine (C _).mono ?_
      rintro e w' ⟨rfl, rfl⟩
      go_wp2_with fail
      go_ret2
      exact ⟨rfl, rfl⟩
  · have e : numOf b.data.toList = (0, false) := by
      unfold numOf
      rw [if_neg]
      rintro ⟨h, _⟩
      rw [← dig_sz] at h
      exact h10 h
    rw [e]
    simp only
    have hq : ((b.size : Int) != 10) = true := by simp; omega
    clear e h10
    go_enter Tryz.func39, Tryz.ntmps39
    go_wp2_with fail
    go_ret2
    exact ⟨rfl, rfl⟩

end Go.Proofs.YtkejmifkjgpdjaaGreat

namespace Go.Proofs.YtkejmifkjgpdjaaGreat
open Go.RowKit

theorem c__impl_sign__reference_amp (b : UInt8) (w : World) (h0 : (b.toNat : Int) ≤ 38) (h1 : (38 : Int) ≤ b.toNat) :
    Calls Tryz.prog 143 #[.int .u8 b.toNat] w fun e w' => e = .returned (.string ⟨#[38, 97, 109, 112, 59]⟩) ∧ w' = w := by
  go_enter Tryz.func143, Tryz.ntmps143
  go_wp2
  go_ret
  exact ⟨rfl, rfl⟩

theorem c__impl_sign__reference_lt (b : UInt8) (w : World) (h0 : (b.toNat : Int) ≤ 60) (h1 : (60 : Int) ≤ b.toNat) :
    Calls Tryz.prog 143 #[.int .u8 b.toNat] w fun e w' => e = .returned (.string ⟨#[38, 108, 116, 59]⟩) ∧ w' = w := by
  go_enter Tryz.func143, Tryz.ntmps143
  go_wp2
  go_ret
  exact ⟨rfl, rfl⟩

theorem c__impl_sign__reference_gt (b : UInt8) (w : World) (h0 : (b.toNat : Int) ≤ 62) (h1 : (62 : Int) ≤ b.toNat) :
    Calls Tryz.prog 143 #[.int .u8 b.toNat] w fun e w' => e = .returned (.string ⟨#[38, 103, 116, 59]⟩) ∧ w' = w := by
  go_enter Tryz.func143, Tryz.ntmps143
  go_wp2
  go_ret
  exact ⟨rfl, rfl⟩

theorem c__impl_sign__reference_quot (b : UInt8) (w : World) (h0 : (b.toNat : Int) ≤ 34) (h1 : (34 : Int) ≤ b.toNat) :
    Calls Tryz.prog 143 #[.int .u8 b.toNat] w fun e w' => e = .returned (.string ⟨#[38, 113, 117, 111, 116, 59]⟩) ∧ w' = w := by
  go_enter Tryz.func143, Tryz.ntmps143
  go_wp2
  go_ret
  exact ⟨rfl, rfl⟩

theorem c__impl_sign__reference_no (b : UInt8) (w : World) (h0 : ¬ (b.toNat : Int) = 38) (h1 : ¬ (b.toNat : Int) = 60) (h2 : ¬ (b.toNat : Int) = 62) (h3 : ¬ (b.toNat : Int) = 34) :
    Calls Tryz.prog 143 #[.int .u8 b.toNat] w fun e w' => e = .returned (.string ⟨#[]⟩) ∧ w' = w := by
  go_enter Tryz.func143, Tryz.ntmps143
  go_wp2
  go_ret
  exact ⟨rfl, rfl⟩

theorem c__impl_sign__itself (b : UInt8) (w : World) :
    Calls Tryz.prog 101 #[.int .u8 b.toNat] w fun e w' => e = .returned (.string ⟨#[b]⟩) ∧ Below w.heap.size w w' := by
  have hown : (w.alloc (.cells #[.int .u8 b.toNat] 5)).ownsRow 0 5 1 (.slice (some ⟨w.heap.size, 0, none⟩) [b].length 1) [b].length (Lib.byteCells [b]) :=
    ⟨rfl, .inr ⟨w.heap.size, 1, #[.int .u8 b.toNat], rfl, Nat.zero_le _, heap_alloc_new w _, Nat.le_refl _, by decide, rfl, rfl⟩⟩
  have hrun := run_str_own (P := Tryz.prog) (src := 96) (dst := 9) Tryz.underlying96 Tryz.underlying5 Tryz.underlying9 hown
  have hr : (convert 96 9 (.slice (some ⟨w.heap.size, 0, none⟩) 1 1)).run Tryz.prog (w.alloc (.cells #[.int .u8 b.toNat] 5)) = .ok (.string ⟨#[b]⟩) (w.alloc (.cells #[.int .u8 b.toNat] 5)) := hrun
  clear hown hrun
  go_enter Tryz.func101, Tryz.ntmps101
  go_wp2
  go_ret
  exact ⟨rfl, (Below.refl _ _).alloc (Nat.le_refl _) _⟩

theorem c__impl_sign__itself_34 (w : World) : Calls Tryz.prog 101 #[.int .u8 34] w fun e w' => e = .returned (.string ⟨#[34]⟩) ∧ Below w.heap.size w w' := c__impl_sign__itself 34 w
theorem c__impl_sign__itself_62 (w : World) : Calls Tryz.prog 101 #[.int .u8 62] w fun e w' => e = .returned (.string ⟨#[62]⟩) ∧ Below w.heap.size w w' := c__impl_sign__itself 62 w

theorem ret_str {a b : List UInt8} (h : a = b) : Ending.returned (.string ⟨a.toArray⟩) = .returned (.string ⟨b.toArray⟩) := by rw [h]

theorem c__impl_sign__inText (b : UInt8) (w : World) :
    Calls Tryz.prog 125 #[.int .u8 b.toNat] w fun e w' => e = .returned (.string ⟨(escB false b).toArray⟩) ∧ Below w.heap.size w w' := by
  have cases : (b.toNat : Int) = 38 ∨ (b.toNat : Int) = 60 ∨ (b.toNat : Int) = 62 ∨ (b.toNat : Int) = 34 ∨ (¬ (b.toNat : Int) = 38 ∧ ¬ (b.toNat : Int) = 60 ∧ ¬ (b.toNat : Int) = 62 ∧ ¬ (b.toNat : Int) = 34) := by omega
  rcases cases with h | h | h | h | ⟨h0, h1, h2, h3⟩
  · have e : escB false b = [38, 97, 109, 112, 59] := by unfold escB; rw [if_pos (by omega)]
    have g0 : (b.toNat : Int) ≤ 38 := by omega
    have g1 : (38 : Int) ≤ b.toNat := by omega
    rw [e]; clear e h
    go_enter Tryz.func125, Tryz.ntmps125
    go_wp2_with (go_at_call 143; refine (c__impl_sign__reference_amp b _ g0 g1).mono ?_; rintro e w' ⟨rfl, rfl⟩)
    go_ret
    exact ⟨rfl, Below.refl _ _⟩
  · have e : escB false b = [38, 108, 116, 59] := by unfold escB; rw [if_neg (by omega), if_pos (by omega)]
    have g0 : (b.toNat : Int) ≤ 60 := by omega
    have g1 : (60 : Int) ≤ b.toNat := by omega
    rw [e]; clear e h
    go_enter Tryz.func125, Tryz.ntmps125
    go_wp2_with (go_at_call 143; refine (c__impl_sign__reference_lt b _ g0 g1).mono ?_; rintro e w' ⟨rfl, rfl⟩)
    go_ret
    exact ⟨rfl, Below.refl _ _⟩
  · have e : escB false b = [38, 103, 116, 59] := by unfold escB; rw [if_neg (by omega), if_neg (by omega), if_pos (by omega)]; rfl
    have g0 : (b.toNat : Int) ≤ 62 := by omega
    have g1 : (62 : Int) ≤ b.toNat := by omega
    rw [e]; clear e h
    go_enter Tryz.func125, Tryz.ntmps125
    go_wp2_with (go_at_call 143; refine (c__impl_sign__reference_gt b _ g0 g1).mono ?_; rintro e w' ⟨rfl, rfl⟩)
    go_ret
    exact ⟨rfl, Below.refl _ _⟩
  · have e : escB false b = [b] := by unfold escB; rw [if_neg (by omega), if_neg (by omega), if_neg (by omega), if_pos (by omega)]; rfl
    rw [e]; clear e
    obtain rfl : b = 34 := UInt8.toNat_inj.1 (show b.toNat = 34 by omega)
    clear h
    go_enter Tryz.func125, Tryz.ntmps125
    go_wp2_with (go_at_call 101; refine (c__impl_sign__itself_34 _).mono ?_; rintro e w' ⟨rfl, hb⟩)
    go_ret
    exact ⟨rfl, hb⟩
  · have e : escB false b = [b] := by unfold escB; rw [if_neg (by omega), if_neg (by omega), if_neg (by omega), if_neg (by omega)]
    rw [e]; clear e
    go_enter Tryz.func125, Tryz.ntmps125
    go_wp2_with (first | (go_at_call 143; refine (c__impl_sign__reference_no b _ h0 h1 h2 h3).mono ?_; rintro e w' ⟨rfl, rfl⟩) | (go_at_call 101; refine (c__impl_sign__itself b _).mono ?_; rintro e w' ⟨rfl, hb⟩))
    go_ret
    exact ⟨rfl, hb⟩

theorem c__impl_sign__inQuotes (b : UInt8) (w : World) :
    Calls Tryz.prog 126 #[.int .u8 b.toNat] w fun e w' => e = .returned (.string ⟨(escB true b).toArray⟩) ∧ Below w.heap.size w w' := by
  have cases : (b.toNat : Int) = 38 ∨ (b.toNat : Int) = 60 ∨ (b.toNat : Int) = 62 ∨ (b.toNat : Int) = 34 ∨ (¬ (b.toNat : Int) = 38 ∧ ¬ (b.toNat : Int) = 60 ∧ ¬ (b.toNat : Int) = 62 ∧ ¬ (b.toNat : Int) = 34) := by omega
  rcases cases with h | h | h | h | ⟨h0, h1, h2, h3⟩
  · have e : escB true b = [38, 97, 109, 112, 59] := by unfold escB; rw [if_pos (by omega)]
    have g0 : (b.toNat : Int) ≤ 38 := by omega
    have g1 : (38 : Int) ≤ b.toNat := by omega
    rw [e]; clear e h
    go_enter Tryz.func126, Tryz.ntmps126
    go_wp2_with (go_at_call 143; refine (c__impl_sign__reference_amp b _ g0 g1).mono ?_; rintro e w' ⟨rfl, rfl⟩)
    go_ret
    exact ⟨rfl, Below.refl _ _⟩
  · have e : escB true b = [38, 108, 116, 59] := by unfold escB; rw [if_neg (by omega), if_pos (by omega)]
    have g0 : (b.toNat : Int) ≤ 60 := by omega
    have g1 : (60 : Int) ≤ b.toNat := by omega
    rw [e]; clear e h
    go_enter Tryz.func126, Tryz.ntmps126
    go_wp2_with (go_at_call 143; refine (c__impl_sign__reference_lt b _ g0 g1).mono ?_; rintro e w' ⟨rfl, rfl⟩)
    go_ret
    exact ⟨rfl, Below.refl _ _⟩
  · have e : escB true b = [b] := by unfold escB; rw [if_neg (by omega), if_neg (by omega), if_pos (by omega)]; rfl
    rw [e]; clear e
    obtain rfl : b = 62 := UInt8.toNat_inj.1 (show b.toNat = 62 by omega)
    clear h
    go_enter Tryz.func126, Tryz.ntmps126
    go_wp2_with (go_at_call 101; refine (c__impl_sign__itself_62 _).mono ?_; rintro e w' ⟨rfl, hb⟩)
    go_ret
    exact ⟨rfl, hb⟩
  · have e : escB true b = [38, 113, 117, 111, 116, 59] := by unfold escB; rw [if_neg (by omega), if_neg (by omega), if_neg (by omega), if_pos (by omega)]; rfl
    have g0 : (b.toNat : Int) ≤ 34 := by omega
    have g1 : (34 : Int) ≤ b.toNat := by omega
    rw [e]; clear e h
    go_enter Tryz.func126, Tryz.ntmps126
    go_wp2_with (go_at_call 143; refine (c__impl_sign__reference_quot b _ g0 g1).mono ?_; rintro e w' ⟨rfl, rfl⟩)
    go_ret
    exact ⟨rfl, Below.refl _ _⟩
  · have e : escB true b = [b] := by unfold escB; rw [if_neg (by omega), if_neg (by omega), if_neg (by omega), if_neg (by omega)]
    rw [e]; clear e
    go_enter Tryz.func126, Tryz.ntmps126
    go_wp2_with (first | (go_at_call 143; refine (c__impl_sign__reference_no b _ h0 h1 h2 h3).mono ?_; rintro e w' ⟨rfl, rfl⟩) | (go_at_call 101; refine (c__impl_sign__itself b _).mono ?_; rintro e w' ⟨rfl, hb⟩))
    go_ret
    exact ⟨rfl, hb⟩

end Go.Proofs.YtkejmifkjgpdjaaGreat

namespace Go.Proofs.YtkejmifkjgpdjaaGreat
open Go.RowKit
set_option linter.unusedVariables false
set_option linter.unusedSimpArgs false

/-- What is locked. -/
def spokenF (r s : ByteArray) : ByteArray := (((⟨#[82, 101, 102, 61]⟩ : ByteArray) ++ r) ++ ⟨#[59, 83, 117, 109, 61]⟩) ++ s

set_option maxHeartbeats 2000000 in
theorem cSpokenS (r s : ByteArray) (w : World) (hr : r.size ≤ 1048576) (hs : s.size ≤ 1048576) :
    Calls Tryz.prog 20 #[.string r, .string s] w fun e w' => e = .returned (.string (spokenF r s)) ∧ w' = w := by
  unfold spokenF
  obtain ⟨S1, hS1⟩ : ∃ S, (⟨#[82, 101, 102, 61]⟩ : ByteArray) ++ r = S := ⟨_, rfl⟩
  have hs1 : S1.size = 4 + r.size := by rw [← hS1, ByteArray.size_append]; rfl
  have ho1 : ¬ 9223372036854775807 < (⟨#[82, 101, 102, 61]⟩ : ByteArray).size + r.size := by rw [show (⟨#[82, 101, 102, 61]⟩ : ByteArray).size = 4 from rfl]; omega
  obtain ⟨S2, hS2⟩ : ∃ S, S1 ++ (⟨#[59, 83, 117, 109, 61]⟩ : ByteArray) = S := ⟨_, rfl⟩
  have hs2 : S2.size = S1.size + 5 := by rw [← hS2, ByteArray.size_append]; rfl
  have ho2 : ¬ 9223372036854775807 < S1.size + (⟨#[59, 83, 117, 109, 61]⟩ : ByteArray).size := by rw [show (⟨#[59, 83, 117, 109, 61]⟩ : ByteArray).size = 5 from rfl]; omega
  obtain ⟨S3, hS3⟩ : ∃ S, S2 ++ s = S := ⟨_, rfl⟩
  have ho3 : ¬ 9223372036854775807 < S2.size + s.size := by omega
  rw [hS1, hS2, hS3]
  go_enter Tryz.func20, Tryz.ntmps20
  go_wp2_with fail
  go_ret
  exact ⟨rfl, rfl⟩

theorem spoken_by (r s : ByteArray) : ((((((⟨#[82, 101, 102]⟩ : ByteArray) ++ ⟨#[61]⟩) ++ r) ++ ⟨#[59]⟩) ++ ⟨#[83, 117, 109]⟩) ++ ⟨#[61]⟩) ++ s = spokenF r s := by
  unfold spokenF
  rw [show (⟨#[82, 101, 102, 61]⟩ : ByteArray) = (⟨#[82, 101, 102]⟩ : ByteArray) ++ ⟨#[61]⟩ from by decide, show (⟨#[59, 83, 117, 109, 61]⟩ : ByteArray) = ((⟨#[59]⟩ : ByteArray) ++ ⟨#[83, 117, 109]⟩) ++ ⟨#[61]⟩ from by decide]
  simp only [ByteArray.append_assoc]

theorem c_itself_eq (w : World) : Calls Tryz.prog 101 #[.int .u8 61] w fun e w' => e = .returned (.string ⟨#[61]⟩) ∧ Below w.heap.size w w' := c__impl_sign__itself 61 w

set_option maxHeartbeats 2000000 in
theorem cSpokenI (r s : ByteArray) (w : World) (hr : r.size ≤ 1048576) (hs : s.size ≤ 1048576) :
    Calls Tryz.prog 61 #[.string r, .string s] w fun e w' => e = .returned (.string (spokenF r s)) ∧ Below w.heap.size w w' := by
  rw [← spoken_by]
  have C := hid c_itself_eq
  obtain ⟨S0, hS0⟩ : ∃ S, (⟨#[82, 101, 102]⟩ : ByteArray) ++ ⟨#[61]⟩ = S := ⟨_, rfl⟩
  have hs0 : S0.size = 4 := by rw [← hS0]; rfl
  have ho0 : ¬ 9223372036854775807 < (⟨#[82, 101, 102]⟩ : ByteArray).size + (⟨#[61]⟩ : ByteArray).size := by decide
  obtain ⟨S1, hS1⟩ : ∃ S, S0 ++ r = S := ⟨_, rfl⟩
  have hs1 : S1.size = 4 + r.size := by rw [← hS1, ByteArray.size_append, hs0]
  have ho1 : ¬ 9223372036854775807 < S0.size + r.size := by omega
  obtain ⟨S2, hS2⟩ : ∃ S, S1 ++ (⟨#[59]⟩ : ByteArray) = S := ⟨_, rfl⟩
  have hs2 : S2.size = S1.size + 1 := by rw [← hS2, ByteArray.size_append]; rfl
  have ho2 : ¬ 9223372036854775807 < S1.size + (⟨#[59]⟩ : ByteArray).size := by rw [show (⟨#[59]⟩ : ByteArray).size = 1 from rfl]; omega
  obtain ⟨S3, hS3⟩ : ∃ S, S2 ++ (⟨#[83, 117, 109]⟩ : ByteArray) = S := ⟨_, rfl⟩
  have hs3 : S3.size = S2.size + 3 := by rw [← hS3, ByteArray.size_append]; rfl
  have ho3 : ¬ 9223372036854775807 < S2.size + (⟨#[83, 117, 109]⟩ : ByteArray).size := by rw [show (⟨#[83, 117, 109]⟩ : ByteArray).size = 3 from rfl]; omega
  obtain ⟨S4, hS4⟩ : ∃ S, S3 ++ (⟨#[61]⟩ : ByteArray) = S := ⟨_, rfl⟩
  have hs4 : S4.size = S3.size + 1 := by rw [← hS4, ByteArray.size_append]; rfl
  have ho4 : ¬ 9223372036854775807 < S3.size + (⟨#[61]⟩ : ByteArray).size := by rw [show (⟨#[61]⟩ : ByteArray).size = 1 from rfl]; omega
  obtain ⟨S5, hS5⟩ : ∃ S, S4 ++ s = S := ⟨_, rfl⟩
  have ho5 : ¬ 9223372036854775807 < S4.size + s.size := by omega
  rw [hS0, hS1, hS2, hS3, hS4, hS5]
  go_enter Tryz.func61, Tryz.ntmps61
  go_wp2_with fail
  refine (C.out _).mono ?_
  rintro e w1 ⟨rfl, hb1⟩
  have HB1 := hid hb1
  clear hb1
  go_wp2_with fail
  refine (C.out _).mono ?_
  rintro e w2 ⟨rfl, hb2⟩
  have HB2 := hid (bb HB1.out hb2)
  clear hb2 C
  go_wp2_with fail
  go_ret
  exact ⟨rfl, HB2.out⟩

end Go.Proofs.YtkejmifkjgpdjaaGreat
