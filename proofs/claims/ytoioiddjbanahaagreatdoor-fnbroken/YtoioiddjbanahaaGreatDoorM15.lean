/-  -/
import Derived.Test.YtoioiddjbanahaaGreatDoorM14
import Derived.Test.YtoioiddjbanahaaGreatDoorRows
import Derived.Test.YtoioiddjbanahaaGreatDoorM6
import Derived.Test.YtoioiddjbanahaaGreatDoorM1
import Derived.Test.YtoioiddjbanahaaGreatDoorM8
import Derived.WalkKit
set_option linter.unusedVariables false
set_option linter.unusedSimpArgs false
namespace Go.Proofs.YtoioiddjbanahaaGreatDoor

open Go.RowKit

def numOf (l : List UInt8) : Int × Bool := if l.length = 10 /\ l.all isDig = true then ((valD l : Int), true) else (0, false)

theorem cNumI (b : ByteArray) (w : World) (hb : b.size <= 1048576) :
  Calls Tryz.prog 157 #[.string b] w fun e w' => e = .returned (.tuple #[.int .i64 (numOf b.data.toList).1, .bool (numOf b.data.toList).2]) /\ w' = w := by
 by_cases h10 : b.size = 10
 ·have hl : b.data.toList.length = 10 := by rw [<- dig_sz]; exact h10
  have C := fun w => cDigitsI b w (by omega)
  have e : numOf b.data.toList = ((if b.data.toList.all isDig = true then (valD b.data.toList : Int) else 0), b.data.toList.all isDig) := by
   unfold numOf
   by_cases h : b.data.toList.all isDig = true
   ·simp [h, hl]
   ·simp [h]
  rw [e]
  simp only
  generalize (if b.data.toList.all isDig = true then (valD b.data.toList : Int) else 0) = X at *
  generalize b.data.toList.all isDig = Y at *
  have hq : ((b.size : Int) != 10) = false := by simp; omega
  clear e hl h10
  go_enter Tryz.func157, Tryz.ntmps157
  go_wp2_with fail
  refine (C _).mono ?_
  rintro e w' ⟨rfl, rfl⟩
  go_wp2_with fail
  go_ret2
  exact ⟨rfl, rfl⟩
 ·have e : numOf b.data.toList = (0, false) := by
   unfold numOf
   rw [if_neg]
   rintro ⟨h, _⟩
   rw [<- dig_sz] at h
   exact h10 h
  rw [e]
  simp only
  have hq : ((b.size : Int) != 10) = true := by simp; omega
  clear e h10
  go_enter Tryz.func157, Tryz.ntmps157
  go_wp2_with fail
  go_ret2
  exact ⟨rfl, rfl⟩

theorem cNumS (b : ByteArray) (w : World) (hb : b.size <= 1048576) :
  Calls Tryz.prog 124 #[.string b] w fun e w' => e = .returned (.tuple #[.int .i64 (numOf b.data.toList).1, .bool (numOf b.data.toList).2]) /\ w' = w := by
 by_cases h10 : b.size = 10
 ·have hl : b.data.toList.length = 10 := by rw [<- dig_sz]; exact h10
  have C := fun w => cDigitsS b 0 10 w (by omega) (by omega) hb
  rw [List.drop_zero, List.take_of_length_le (by omega)] at C
  have hq : ((b.size : Int) != 10) = false := by simp; omega
  by_cases h : b.data.toList.all isDig = true
  ·have e : numOf b.data.toList = ((valD b.data.toList : Int), true) := by
    unfold numOf
    rw [if_pos ⟨hl, h⟩]
   have e2 : rdI b.data.toList = (valD b.data.toList : Int) := by unfold rdI; rw [if_pos h]
   rw [e2] at C
   rw [e]
   simp only
   generalize valD b.data.toList = X at *
   have hx : ¬ ((X : Int) < 0) := by omega
   clear e hl h10 h e2
   go_enter Tryz.func124, Tryz.ntmps124
   go_wp2_with fail
   refine (C _).mono ?_
   rintro e w' ⟨rfl, rfl⟩
   go_wp2_with fail
   refine (C _).mono ?_
   rintro e w' ⟨rfl, rfl⟩
   go_wp2_with fail
   go_ret2
   exact ⟨rfl, rfl⟩
  ·have e : numOf b.data.toList = (0, false) := by
    unfold numOf
    rw [if_neg (fun x => h x.2)]
   have e2 : rdI b.data.toList = -1 := by unfold rdI; rw [if_neg h]
   rw [e2] at C
   rw [e]
   simp only
   clear e hl h10 h e2
   go_enter Tryz.func124, Tryz.ntmps124
   go_wp2_with fail
   refine (C _).mono ?_
   rintro e w' ⟨rfl, rfl⟩
   go_wp2_with fail
   go_ret2
   exact ⟨rfl, rfl⟩
 ·have e : numOf b.data.toList = (0, false) := by
   unfold numOf
   rw [if_neg]
   rintro ⟨h, _⟩
   rw [<- dig_sz] at h
   exact h10 h
  rw [e]
  simp only
  have hq : ((b.size : Int) != 10) = true := by simp; omega
  clear e h10
  go_enter Tryz.func124, Tryz.ntmps124
  go_wp2_with fail
  go_ret2
  exact ⟨rfl, rfl⟩

end Go.Proofs.YtoioiddjbanahaaGreatDoor

namespace Go.Proofs.YtoioiddjbanahaaGreatDoor

open Go.RowKit

theorem c__impl_sign__reference_amp (b : UInt8) (w : World) (h0 : (b.toNat : Int) <= 38) (h1 : (38 : Int) <= b.toNat) :
  Calls Tryz.prog 210 #[.int .u8 b.toNat] w fun e w' => e = .returned (.string ⟨#[38, 97, 109, 112, 59]⟩) /\ w' = w := by
 go_enter Tryz.func210, Tryz.ntmps210
 go_wp2
 go_ret
 exact ⟨rfl, rfl⟩

theorem c__impl_sign__reference_lt (b : UInt8) (w : World) (h0 : (b.toNat : Int) <= 60) (h1 : (60 : Int) <= b.toNat) :
  Calls Tryz.prog 210 #[.int .u8 b.toNat] w fun e w' => e = .returned (.string ⟨#[38, 108, 116, 59]⟩) /\ w' = w := by
 go_enter Tryz.func210, Tryz.ntmps210
 go_wp2
 go_ret
 exact ⟨rfl, rfl⟩

theorem c__impl_sign__reference_gt (b : UInt8) (w : World) (h0 : (b.toNat : Int) <= 62) (h1 : (62 : Int) <= b.toNat) :
  Calls Tryz.prog 210 #[.int .u8 b.toNat] w fun e w' => e = .returned (.string ⟨#[38, 103, 116, 59]⟩) /\ w' = w := by
 go_enter Tryz.func210, Tryz.ntmps210
 go_wp2
 go_ret
 exact ⟨rfl, rfl⟩

theorem c__impl_sign__reference_quot (b : UInt8) (w : World) (h0 : (b.toNat : Int) <= 34) (h1 : (34 : Int) <= b.toNat) :
  Calls Tryz.prog 210 #[.int .u8 b.toNat] w fun e w' => e = .returned (.string ⟨#[38, 113, 117, 111, 116, 59]⟩) /\ w' = w := by
 go_enter Tryz.func210, Tryz.ntmps210
 go_wp2
 go_ret
 exact ⟨rfl, rfl⟩

theorem c__impl_sign__reference_no (b : UInt8) (w : World) (h0 : ¬ (b.toNat : Int) = 38) (h1 : ¬ (b.toNat : Int) = 60) (h2 : ¬ (b.toNat : Int) = 62) (h3 : ¬ (b.toNat : Int) = 34) :
  Calls Tryz.prog 210 #[.int .u8 b.toNat] w fun e w' => e = .returned (.string ⟨#[]⟩) /\ w' = w := by
 go_enter Tryz.func210, Tryz.ntmps210
 go_wp2
 go_ret
 exact ⟨rfl, rfl⟩

theorem c__impl_sign__itself (b : UInt8) (w : World) :
  Calls Tryz.prog 122 #[.int .u8 b.toNat] w fun e w' => e = .returned (.string ⟨#[b]⟩) /\ Below w.heap.size w w' := by
 have hown : (w.alloc (.cells #[.int .u8 b.toNat] 5)).ownsRow 0 5 1 (.slice (some ⟨w.heap.size, 0, none⟩) [b].length 1) [b].length (Lib.byteCells [b]) :=
  ⟨rfl, .inr ⟨w.heap.size, 1, #[.int .u8 b.toNat], rfl, Nat.zero_le _, heap_alloc_new w _, Nat.le_refl _, by decide, rfl, rfl⟩⟩
 have hrun := run_str_own (P := Tryz.prog) (src := 22) (dst := 9) Tryz.underlying22 Tryz.underlying5 Tryz.underlying9 hown
 have hr : (convert 22 9 (.slice (some ⟨w.heap.size, 0, none⟩) 1 1)).run Tryz.prog (w.alloc (.cells #[.int .u8 b.toNat] 5)) = .ok (.string ⟨#[b]⟩) (w.alloc (.cells #[.int .u8 b.toNat] 5)) := hrun
 clear hown hrun
 go_enter Tryz.func122, Tryz.ntmps122
 go_wp2
 go_ret
 exact ⟨rfl, (Below.refl _ _).alloc (Nat.le_refl _) _⟩

theorem c__impl_sign__itself_34 (w : World) : Calls Tryz.prog 122 #[.int .u8 34] w fun e w' => e = .returned (.string ⟨#[34]⟩) /\ Below w.heap.size w w' := c__impl_sign__itself 34 w

theorem c__impl_sign__itself_62 (w : World) : Calls Tryz.prog 122 #[.int .u8 62] w fun e w' => e = .returned (.string ⟨#[62]⟩) /\ Below w.heap.size w w' := c__impl_sign__itself 62 w

theorem c__impl_sign__inText (b : UInt8) (w : World) :
  Calls Tryz.prog 188 #[.int .u8 b.toNat] w fun e w' => e = .returned (.string ⟨(escB false b).toArray⟩) /\ Below w.heap.size w w' := by
 have cases : (b.toNat : Int) = 38 \/ (b.toNat : Int) = 60 \/ (b.toNat : Int) = 62 \/ (b.toNat : Int) = 34 \/ (¬ (b.toNat : Int) = 38 /\ ¬ (b.toNat : Int) = 60 /\ ¬ (b.toNat : Int) = 62 /\ ¬ (b.toNat : Int) = 34) := by omega
 rcases cases with h | h | h | h | ⟨h0, h1, h2, h3⟩
 ·have e : escB false b = [38, 97, 109, 112, 59] := by unfold escB; rw [if_pos (by omega)]
  have g0 : (b.toNat : Int) <= 38 := by omega
  have g1 : (38 : Int) <= b.toNat := by omega
  rw [e]; clear e h
  go_enter Tryz.func188, Tryz.ntmps188
  go_wp2_with (go_at_call 210; refine (c__impl_sign__reference_amp b _ g0 g1).mono ?_; rintro e w' ⟨rfl, rfl⟩)
  go_ret
  exact ⟨rfl, Below.refl _ _⟩
 ·have e : escB false b = [38, 108, 116, 59] := by unfold escB; rw [if_neg (by omega), if_pos (by omega)]
  have g0 : (b.toNat : Int) <= 60 := by omega
  have g1 : (60 : Int) <= b.toNat := by omega
  rw [e]; clear e h
  go_enter Tryz.func188, Tryz.ntmps188
  go_wp2_with (go_at_call 210; refine (c__impl_sign__reference_lt b _ g0 g1).mono ?_; rintro e w' ⟨rfl, rfl⟩)
  go_ret
  exact ⟨rfl, Below.refl _ _⟩
 ·have e : escB false b = [38, 103, 116, 59] := by unfold escB; rw [if_neg (by omega), if_neg (by omega), if_pos (by omega)]; rfl
  have g0 : (b.toNat : Int) <= 62 := by omega
  have g1 : (62 : Int) <= b.toNat := by omega
  rw [e]; clear e h
  go_enter Tryz.func188, Tryz.ntmps188
  go_wp2_with (go_at_call 210; refine (c__impl_sign__reference_gt b _ g0 g1).mono ?_; rintro e w' ⟨rfl, rfl⟩)
  go_ret
  exact ⟨rfl, Below.refl _ _⟩
 ·have e : escB false b = [b] := by unfold escB; rw [if_neg (by omega), if_neg (by omega), if_neg (by omega), if_pos (by omega)]; rfl
  rw [e]; clear e
  obtain rfl : b = 34 := UInt8.toNat_inj.1 (show b.toNat = 34 by omega)
  clear h
  go_enter Tryz.func188, Tryz.ntmps188
  go_wp2_with (go_at_call 122; refine (c__impl_sign__itself_34 _).mono ?_; rintro e w' ⟨rfl, hb⟩)
  go_ret
  exact ⟨rfl, hb⟩
 ·have e : escB false b = [b] := by unfold escB; rw [if_neg (by omega), if_neg (by omega), if_neg (by omega), if_neg (by omega)]
  rw [e]; clear e
  go_enter Tryz.func188, Tryz.ntmps188
  go_wp2_with (first | (go_at_call 210; refine (c__impl_sign__reference_no b _ h0 h1 h2 h3).mono ?_; rintro e w' ⟨rfl, rfl⟩) | (go_at_call 122; refine (c__impl_sign__itself b _).mono ?_; rintro e w' ⟨rfl, hb⟩))
  go_ret
  exact ⟨rfl, hb⟩

theorem c__impl_sign__inQuotes (b : UInt8) (w : World) :
  Calls Tryz.prog 189 #[.int .u8 b.toNat] w fun e w' => e = .returned (.string ⟨(escB true b).toArray⟩) /\ Below w.heap.size w w' := by
 have cases : (b.toNat : Int) = 38 \/ (b.toNat : Int) = 60 \/ (b.toNat : Int) = 62 \/ (b.toNat : Int) = 34 \/ (¬ (b.toNat : Int) = 38 /\ ¬ (b.toNat : Int) = 60 /\ ¬ (b.toNat : Int) = 62 /\ ¬ (b.toNat : Int) = 34) := by omega
 rcases cases with h | h | h | h | ⟨h0, h1, h2, h3⟩
 ·have e : escB true b = [38, 97, 109, 112, 59] := by unfold escB; rw [if_pos (by omega)]
  have g0 : (b.toNat : Int) <= 38 := by omega
  have g1 : (38 : Int) <= b.toNat := by omega
  rw [e]; clear e h
  go_enter Tryz.func189, Tryz.ntmps189
  go_wp2_with (go_at_call 210; refine (c__impl_sign__reference_amp b _ g0 g1).mono ?_; rintro e w' ⟨rfl, rfl⟩)
  go_ret
  exact ⟨rfl, Below.refl _ _⟩
 ·have e : escB true b = [38, 108, 116, 59] := by unfold escB; rw [if_neg (by omega), if_pos (by omega)]
  have g0 : (b.toNat : Int) <= 60 := by omega
  have g1 : (60 : Int) <= b.toNat := by omega
  rw [e]; clear e h
  go_enter Tryz.func189, Tryz.ntmps189
  go_wp2_with (go_at_call 210; refine (c__impl_sign__reference_lt b _ g0 g1).mono ?_; rintro e w' ⟨rfl, rfl⟩)
  go_ret
  exact ⟨rfl, Below.refl _ _⟩
 ·have e : escB true b = [b] := by unfold escB; rw [if_neg (by omega), if_neg (by omega), if_pos (by omega)]; rfl
  rw [e]; clear e
  obtain rfl : b = 62 := UInt8.toNat_inj.1 (show b.toNat = 62 by omega)
  clear h
  go_enter Tryz.func189, Tryz.ntmps189
  go_wp2_with (go_at_call 122; refine (c__impl_sign__itself_62 _).mono ?_; rintro e w' ⟨rfl, hb⟩)
  go_ret
  exact ⟨rfl, hb⟩
 ·have e : escB true b = [38, 113, 117, 111, 116, 59] := by unfold escB; rw [if_neg (by omega), if_neg (by omega), if_neg (by omega), if_pos (by omega)]; rfl
  have g0 : (b.toNat : Int) <= 34 := by omega
  have g1 : (34 : Int) <= b.toNat := by omega
  rw [e]; clear e h
  go_enter Tryz.func189, Tryz.ntmps189
  go_wp2_with (go_at_call 210; refine (c__impl_sign__reference_quot b _ g0 g1).mono ?_; rintro e w' ⟨rfl, rfl⟩)
  go_ret
  exact ⟨rfl, Below.refl _ _⟩
 ·have e : escB true b = [b] := by unfold escB; rw [if_neg (by omega), if_neg (by omega), if_neg (by omega), if_neg (by omega)]
  rw [e]; clear e
  go_enter Tryz.func189, Tryz.ntmps189
  go_wp2_with (first | (go_at_call 210; refine (c__impl_sign__reference_no b _ h0 h1 h2 h3).mono ?_; rintro e w' ⟨rfl, rfl⟩) | (go_at_call 122; refine (c__impl_sign__itself b _).mono ?_; rintro e w' ⟨rfl, hb⟩))
  go_ret
  exact ⟨rfl, hb⟩

end Go.Proofs.YtoioiddjbanahaaGreatDoor

namespace Go.Proofs.YtoioiddjbanahaaGreatDoor

open Go.RowKit

def spokenF (r s : ByteArray) : ByteArray := (((⟨#[82, 101, 102, 61]⟩ : ByteArray) ++ r) ++ ⟨#[59, 83, 117, 109, 61]⟩) ++ s

set_option maxHeartbeats 2000000 in
theorem cSpokenS (r s : ByteArray) (w : World) (hr : r.size <= 1048576) (hs : s.size <= 1048576) :
  Calls Tryz.prog 72 #[.string r, .string s] w fun e w' => e = .returned (.string (spokenF r s)) /\ w' = w := by
 unfold spokenF
 obtain ⟨S1, hS1⟩ : ∃ S, (⟨#[82, 101, 102, 61]⟩ : ByteArray) ++ r = S := ⟨_, rfl⟩
 have hs1 : S1.size = 4 + r.size := by rw [<- hS1, ByteArray.size_append]; rfl
 have ho1 : ¬ 9223372036854775807 < (⟨#[82, 101, 102, 61]⟩ : ByteArray).size + r.size := by rw [show (⟨#[82, 101, 102, 61]⟩ : ByteArray).size = 4 from rfl]; omega
 obtain ⟨S2, hS2⟩ : ∃ S, S1 ++ (⟨#[59, 83, 117, 109, 61]⟩ : ByteArray) = S := ⟨_, rfl⟩
 have hs2 : S2.size = S1.size + 5 := by rw [<- hS2, ByteArray.size_append]; rfl
 have ho2 : ¬ 9223372036854775807 < S1.size + (⟨#[59, 83, 117, 109, 61]⟩ : ByteArray).size := by rw [show (⟨#[59, 83, 117, 109, 61]⟩ : ByteArray).size = 5 from rfl]; omega
 obtain ⟨S3, hS3⟩ : ∃ S, S2 ++ s = S := ⟨_, rfl⟩
 have ho3 : ¬ 9223372036854775807 < S2.size + s.size := by omega
 rw [hS1, hS2, hS3]
 go_enter Tryz.func72, Tryz.ntmps72
 go_wp2_with fail
 go_ret
 exact ⟨rfl, rfl⟩

theorem spoken_by (r s : ByteArray) : ((((((⟨#[82, 101, 102]⟩ : ByteArray) ++ ⟨#[61]⟩) ++ r) ++ ⟨#[59]⟩) ++ ⟨#[83, 117, 109]⟩) ++ ⟨#[61]⟩) ++ s = spokenF r s := by
 unfold spokenF
 rw [show (⟨#[82, 101, 102, 61]⟩ : ByteArray) = (⟨#[82, 101, 102]⟩ : ByteArray) ++ ⟨#[61]⟩ from by decide, show (⟨#[59, 83, 117, 109, 61]⟩ : ByteArray) = ((⟨#[59]⟩ : ByteArray) ++ ⟨#[83, 117, 109]⟩) ++ ⟨#[61]⟩ from by decide]
 simp only [ByteArray.append_assoc]

theorem c_itself_eq (w : World) : Calls Tryz.prog 122 #[.int .u8 61] w fun e w' => e = .returned (.string ⟨#[61]⟩) /\ Below w.heap.size w w' := c__impl_sign__itself 61 w

set_option maxHeartbeats 2000000 in
theorem cSpokenI (r s : ByteArray) (w : World) (hr : r.size <= 1048576) (hs : s.size <= 1048576) :
  Calls Tryz.prog 65 #[.string r, .string s] w fun e w' => e = .returned (.string (spokenF r s)) /\ Below w.heap.size w w' := by
 rw [<- spoken_by]
 have C := hid c_itself_eq
 obtain ⟨S0, hS0⟩ : ∃ S, (⟨#[82, 101, 102]⟩ : ByteArray) ++ ⟨#[61]⟩ = S := ⟨_, rfl⟩
 have hs0 : S0.size = 4 := by rw [<- hS0]; rfl
 have ho0 : ¬ 9223372036854775807 < (⟨#[82, 101, 102]⟩ : ByteArray).size + (⟨#[61]⟩ : ByteArray).size := by decide
 obtain ⟨S1, hS1⟩ : ∃ S, S0 ++ r = S := ⟨_, rfl⟩
 have hs1 : S1.size = 4 + r.size := by rw [<- hS1, ByteArray.size_append, hs0]
 have ho1 : ¬ 9223372036854775807 < S0.size + r.size := by omega
 obtain ⟨S2, hS2⟩ : ∃ S, S1 ++ (⟨#[59]⟩ : ByteArray) = S := ⟨_, rfl⟩
 have hs2 : S2.size = S1.size + 1 := by rw [<- hS2, ByteArray.size_append]; rfl
 have ho2 : ¬ 9223372036854775807 < S1.size + (⟨#[59]⟩ : ByteArray).size := by rw [show (⟨#[59]⟩ : ByteArray).size = 1 from rfl]; omega
 obtain ⟨S3, hS3⟩ : ∃ S, S2 ++ (⟨#[83, 117, 109]⟩ : ByteArray) = S := ⟨_, rfl⟩
 have hs3 : S3.size = S2.size + 3 := by rw [<- hS3, ByteArray.size_append]; rfl
 have ho3 : ¬ 9223372036854775807 < S2.size + (⟨#[83, 117, 109]⟩ : ByteArray).size := by rw [show (⟨#[83, 117, 109]⟩ : ByteArray).size = 3 from rfl]; omega
 obtain ⟨S4, hS4⟩ : ∃ S, S3 ++ (⟨#[61]⟩ : ByteArray) = S := ⟨_, rfl⟩
 have hs4 : S4.size = S3.size + 1 := by rw [<- hS4, ByteArray.size_append]; rfl
 have ho4 : ¬ 9223372036854775807 < S3.size + (⟨#[61]⟩ : ByteArray).size := by rw [show (⟨#[61]⟩ : ByteArray).size = 1 from rfl]; omega
 obtain ⟨S5, hS5⟩ : ∃ S, S4 ++ s = S := ⟨_, rfl⟩
 have ho5 : ¬ 9223372036854775807 < S4.size + s.size := by omega
 rw [hS0, hS1, hS2, hS3, hS4, hS5]
 go_enter Tryz.func65, Tryz.ntmps65
 go_wp2_with fail
 refine (C.out _).mono ?_
 rintro e w1 ⟨rfl, hb1⟩
 have HB1 := hid hb1
 clear hb1
 go_wp2_with fail
 refine (C.out _).mono ?_
 rintro e w2 ⟨rfl, hb2⟩
 have HB2 := hid (bb HB1.out hb2)
 clear hb2 C
 go_wp2_with fail
 go_ret
 exact ⟨rfl, HB2.out⟩

end Go.Proofs.YtoioiddjbanahaaGreatDoor

namespace Go.Proofs.YtoioiddjbanahaaGreatDoor

open Go.RowKit

def sealS : ByteArray := ⟨#[83, 101, 97, 108]⟩

def sealM : ByteArray := ⟨#[115, 101, 97, 108]⟩

def refS : ByteArray := ⟨#[82, 101, 102]⟩

def sumS : ByteArray := ⟨#[83, 117, 109]⟩

def signS : ByteArray := ⟨#[83, 105, 103, 110]⟩

def tenB (x : ByteArray) : Bool := (numOf x.data.toList).2

theorem num_nn (l : List UInt8) : decide ((numOf l).1 < 0) = false := by
 unfold numOf
 split <;> simp

noncomputable def sealAt (x : At) : Bool := open Classical in decide (x.name = refS) || ((decide (x.name = sumS) || decide (x.name = signS)) && tenB x.value)

noncomputable def ownA (l : List At) : List At := l.filter fun x => !(declF x).isSome

noncomputable def sealL (l : List At) : Bool := (ownA l).all sealAt && decide ((ownA l).length = 3)

noncomputable def atsJ (ts : List Tk) (k : Nat) : List At := match ts[k]? with
 | some t => t.attrs
 | none => []

noncomputable def sealN (ts : List Tk) (k : Nat) : Bool := !decide ((nameI ts k).size = 0) && knownN ts k sealS sealM && decide (endN ts k = k + 1) && sealL (atsJ ts k)

noncomputable def sealsN (ts : List Tk) (k : Nat) : List Nat := (kidsN ts k).filter (sealN ts)

theorem ownA_skip {l : List At} {y : At} (h : (declF y).isSome = true) : ownA (l ++ [y]) = ownA l := by
 unfold ownA
 rw [List.filter_append, List.filter_cons_of_neg (by rw [h]; decide)]
 simp

theorem ownA_more {l : List At} {y : At} (h : declF y = none) : ownA (l ++ [y]) = ownA l ++ [y] := by
 unfold ownA
 rw [List.filter_append, List.filter_cons_of_pos (by rw [h]; decide)]
 rfl

def SealTo (l : List At) (n : Nat) : Prop := (ownA l).all sealAt = true /\ (ownA l).length = n

theorem sealTo_nil : SealTo [] 0 := ⟨rfl, rfl⟩

theorem SealTo.skip {l : List At} {y : At} {n : Nat} (h : SealTo l n) (hd : (declF y).isSome = true) : SealTo (l ++ [y]) n := by
 unfold SealTo
 rw [ownA_skip hd]
 exact h

theorem SealTo.more {l : List At} {y : At} {n : Nat} (h : SealTo l n) (hd : declF y = none) (hs : sealAt y = true) : SealTo (l ++ [y]) (n + 1) := by
 unfold SealTo
 rw [ownA_more hd, List.all_append, List.length_append, h.1, h.2]
 simp [hs]

theorem SealTo.is {l : List At} {n : Nat} (h : SealTo l n) : sealL l = decide (n = 3) := by
 unfold sealL
 rw [h.1, h.2, Bool.true_and]

theorem sealL_bad {l : List At} {y : At} (hm : y ∈ l) (hd : declF y = none) (hs : sealAt y = false) : sealL l = false := by
 unfold sealL
 have h : (ownA l).all sealAt = false := by
  rw [List.all_eq_false]
  exact ⟨y, List.mem_filter.2 ⟨hm, by rw [hd]; rfl⟩, by rw [hs]; decide⟩
 rw [h]
 rfl

theorem ref_beq (s : ByteArray) : (s.toList == [82, 101, 102]) = decide (s = refS) := by
 rw [<- str_beq]
 have e : refS.toList = [82, 101, 102] := by rw [ByteArray.toList_eq]; rfl
 rw [e]

theorem sum_beq (s : ByteArray) : (s.toList == [83, 117, 109]) = decide (s = sumS) := by
 rw [<- str_beq]
 have e : sumS.toList = [83, 117, 109] := by rw [ByteArray.toList_eq]; rfl
 rw [e]

theorem sign_beq (s : ByteArray) : (s.toList == [83, 105, 103, 110]) = decide (s = signS) := by
 rw [<- str_beq]
 have e : signS.toList = [83, 105, 103, 110] := by rw [ByteArray.toList_eq]; rfl
 rw [e]

end Go.Proofs.YtoioiddjbanahaaGreatDoor
