/- What is spoken by a seal; contracts of Spoken, the specification's and the program's. -/
import Derived.Test.YtnbpcgeojmikoaaRows
import Derived.Test.YtnbpcgeojmikoaaKit
import Derived.Test.YtnbpcgeojmikoaaSESigns
import Derived.Test.YtnbpcgeojmikoaaNAt
import Derived.WalkKit
namespace Go.Proofs.Ytnbpcgeojmikoaa
open Go.RowKit
set_option linter.unusedVariables false
set_option linter.unusedSimpArgs false

/-- What is locked. -/
def spokenF (r s : ByteArray) : ByteArray := (((⟨#[82, 101, 102, 61]⟩ : ByteArray) ++ r) ++ ⟨#[59, 83, 117, 109, 61]⟩) ++ s

set_option maxHeartbeats 2000000 in
theorem cSpokenS (r s : ByteArray) (w : World) (hr : r.size ≤ 1048576) (hs : s.size ≤ 1048576) :
    Calls Try.prog 4 #[.string r, .string s] w fun e w' => e = .returned (.string (spokenF r s)) ∧ w' = w := by
  unfold spokenF
  obtain ⟨S1, hS1⟩ : ∃ S, (⟨#[82, 101, 102, 61]⟩ : ByteArray) ++ r = S := ⟨_, rfl⟩
  have hs1 : S1.size = 4 + r.size := by rw [← hS1, ByteArray.size_append]; rfl
  have ho1 : ¬ 9223372036854775807 < (⟨#[82, 101, 102, 61]⟩ : ByteArray).size + r.size := by rw [show (⟨#[82, 101, 102, 61]⟩ : ByteArray).size = 4 from rfl]; omega
  obtain ⟨S2, hS2⟩ : ∃ S, S1 ++ (⟨#[59, 83, 117, 109, 61]⟩ : ByteArray) = S := ⟨_, rfl⟩
  have hs2 : S2.size = S1.size + 5 := by rw [← hS2, ByteArray.size_append]; rfl
  have ho2 : ¬ 9223372036854775807 < S1.size + (⟨#[59, 83, 117, 109, 61]⟩ : ByteArray).size := by rw [show (⟨#[59, 83, 117, 109, 61]⟩ : ByteArray).size = 5 from rfl]; omega
  obtain ⟨S3, hS3⟩ : ∃ S, S2 ++ s = S := ⟨_, rfl⟩
  have ho3 : ¬ 9223372036854775807 < S2.size + s.size := by omega
  rw [hS1, hS2, hS3]
  go_enter Try.func4, Try.ntmps4
  go_wp2_with fail
  go_ret
  exact ⟨rfl, rfl⟩

theorem spoken_by (r s : ByteArray) : ((((((⟨#[82, 101, 102]⟩ : ByteArray) ++ ⟨#[61]⟩) ++ r) ++ ⟨#[59]⟩) ++ ⟨#[83, 117, 109]⟩) ++ ⟨#[61]⟩) ++ s = spokenF r s := by
  unfold spokenF
  rw [show (⟨#[82, 101, 102, 61]⟩ : ByteArray) = (⟨#[82, 101, 102]⟩ : ByteArray) ++ ⟨#[61]⟩ from by decide, show (⟨#[59, 83, 117, 109, 61]⟩ : ByteArray) = ((⟨#[59]⟩ : ByteArray) ++ ⟨#[83, 117, 109]⟩) ++ ⟨#[61]⟩ from by decide]
  simp only [ByteArray.append_assoc]

theorem c_itself_eq (w : World) : Calls Try.prog 6 #[.int .u8 61] w fun e w' => e = .returned (.string ⟨#[61]⟩) ∧ Below w.heap.size w w' := c__impl_sign__itself 61 w

set_option maxHeartbeats 2000000 in
theorem cSpokenI (r s : ByteArray) (w : World) (hr : r.size ≤ 1048576) (hs : s.size ≤ 1048576) :
    Calls Try.prog 5 #[.string r, .string s] w fun e w' => e = .returned (.string (spokenF r s)) ∧ Below w.heap.size w w' := by
  rw [← spoken_by]
  have C := hid c_itself_eq
  obtain ⟨S0, hS0⟩ : ∃ S, (⟨#[82, 101, 102]⟩ : ByteArray) ++ ⟨#[61]⟩ = S := ⟨_, rfl⟩
  have hs0 : S0.size = 4 := by rw [← hS0]; rfl
  have ho0 : ¬ 9223372036854775807 < (⟨#[82, 101, 102]⟩ : ByteArray).size + (⟨#[61]⟩ : ByteArray).size := by decide
  obtain ⟨S1, hS1⟩ : ∃ S, S0 ++ r = S := ⟨_, rfl⟩
  have hs1 : S1.size = 4 + r.size := by rw [← hS1, ByteArray.size_append, hs0]
  have ho1 : ¬ 9223372036854775807 < S0.size + r.size := by omega
  obtain ⟨S2, hS2⟩ : ∃ S, S1 ++ (⟨#[59]⟩ : ByteArray) = S := ⟨_, rfl⟩
  have hs2 : S2.size = S1.size + 1 := by rw [← hS2, ByteArray.size_append]; rfl
  have ho2 : ¬ 9223372036854775807 < S1.size + (⟨#[59]⟩ : ByteArray).size := by rw [show (⟨#[59]⟩ : ByteArray).size = 1 from rfl]; omega
  obtain ⟨S3, hS3⟩ : ∃ S, S2 ++ (⟨#[83, 117, 109]⟩ : ByteArray) = S := ⟨_, rfl⟩
  have hs3 : S3.size = S2.size + 3 := by rw [← hS3, ByteArray.size_append]; rfl
  have ho3 : ¬ 9223372036854775807 < S2.size + (⟨#[83, 117, 109]⟩ : ByteArray).size := by rw [show (⟨#[83, 117, 109]⟩ : ByteArray).size = 3 from rfl]; omega
  obtain ⟨S4, hS4⟩ : ∃ S, S3 ++ (⟨#[61]⟩ : ByteArray) = S := ⟨_, rfl⟩
  have hs4 : S4.size = S3.size + 1 := by rw [← hS4, ByteArray.size_append]; rfl
  have ho4 : ¬ 9223372036854775807 < S3.size + (⟨#[61]⟩ : ByteArray).size := by rw [show (⟨#[61]⟩ : ByteArray).size = 1 from rfl]; omega
  obtain ⟨S5, hS5⟩ : ∃ S, S4 ++ s = S := ⟨_, rfl⟩
  have ho5 : ¬ 9223372036854775807 < S4.size + s.size := by omega
  rw [hS0, hS1, hS2, hS3, hS4, hS5]
  go_enter Try.func5, Try.ntmps5
  go_wp2_with fail
  refine (C.out _).mono ?_
  rintro e w1 ⟨rfl, hb1⟩
  have HB1 := hid hb1
  clear hb1
  go_wp2_with fail
  refine (C.out _).mono ?_
  rintro e w2 ⟨rfl, hb2⟩
  have HB2 := hid (bb HB1.out hb2)
  clear hb2 C
  go_wp2_with fail
  go_ret
  exact ⟨rfl, HB2.out⟩

end Go.Proofs.Ytnbpcgeojmikoaa
