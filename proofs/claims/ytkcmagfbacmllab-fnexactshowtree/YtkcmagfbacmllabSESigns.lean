/- Contracts of the methods by which a sign is written: reference, itself, inText, inQuotes. -/
import Derived.Test.YtkcmagfbacmllabRows
import Derived.Test.YtkcmagfbacmllabSEMath
import Derived.Test.YtkcmagfbacmllabKit
import Derived.WalkKit
namespace Go.Proofs.Ytkcmagfbacmllab
open Go.RowKit

theorem c__impl_sign__reference_amp (b : UInt8) (w : World) (h0 : (b.toNat : Int) ≤ 38) (h1 : (38 : Int) ≤ b.toNat) :
    Calls Try.prog 95 #[.int .u8 b.toNat] w fun e w' => e = .returned (.string ⟨#[38, 97, 109, 112, 59]⟩) ∧ w' = w := by
  go_enter Try.func95, Try.ntmps95
  go_wp2
  go_ret
  exact ⟨rfl, rfl⟩

theorem c__impl_sign__reference_lt (b : UInt8) (w : World) (h0 : (b.toNat : Int) ≤ 60) (h1 : (60 : Int) ≤ b.toNat) :
    Calls Try.prog 95 #[.int .u8 b.toNat] w fun e w' => e = .returned (.string ⟨#[38, 108, 116, 59]⟩) ∧ w' = w := by
  go_enter Try.func95, Try.ntmps95
  go_wp2
  go_ret
  exact ⟨rfl, rfl⟩

theorem c__impl_sign__reference_gt (b : UInt8) (w : World) (h0 : (b.toNat : Int) ≤ 62) (h1 : (62 : Int) ≤ b.toNat) :
    Calls Try.prog 95 #[.int .u8 b.toNat] w fun e w' => e = .returned (.string ⟨#[38, 103, 116, 59]⟩) ∧ w' = w := by
  go_enter Try.func95, Try.ntmps95
  go_wp2
  go_ret
  exact ⟨rfl, rfl⟩

theorem c__impl_sign__reference_quot (b : UInt8) (w : World) (h0 : (b.toNat : Int) ≤ 34) (h1 : (34 : Int) ≤ b.toNat) :
    Calls Try.prog 95 #[.int .u8 b.toNat] w fun e w' => e = .returned (.string ⟨#[38, 113, 117, 111, 116, 59]⟩) ∧ w' = w := by
  go_enter Try.func95, Try.ntmps95
  go_wp2
  go_ret
  exact ⟨rfl, rfl⟩

theorem c__impl_sign__reference_no (b : UInt8) (w : World) (h0 : ¬ (b.toNat : Int) = 38) (h1 : ¬ (b.toNat : Int) = 60) (h2 : ¬ (b.toNat : Int) = 62) (h3 : ¬ (b.toNat : Int) = 34) :
    Calls Try.prog 95 #[.int .u8 b.toNat] w fun e w' => e = .returned (.string ⟨#[]⟩) ∧ w' = w := by
  go_enter Try.func95, Try.ntmps95
  go_wp2
  go_ret
  exact ⟨rfl, rfl⟩

theorem c__impl_sign__itself (b : UInt8) (w : World) :
    Calls Try.prog 82 #[.int .u8 b.toNat] w fun e w' => e = .returned (.string ⟨#[b]⟩) ∧ Below w.heap.size w w' := by
  have hown : (w.alloc (.cells #[.int .u8 b.toNat] 5)).ownsRow 0 5 1 (.slice (some ⟨w.heap.size, 0, none⟩) [b].length 1) [b].length (Lib.byteCells [b]) :=
    ⟨rfl, .inr ⟨w.heap.size, 1, #[.int .u8 b.toNat], rfl, Nat.zero_le _, heap_alloc_new w _, Nat.le_refl _, by decide, rfl, rfl⟩⟩
  have hrun := run_str_own (P := Try.prog) (src := 47) (dst := 9) Try.underlying47 Try.underlying5 Try.underlying9 hown
  have hr : (convert 47 9 (.slice (some ⟨w.heap.size, 0, none⟩) 1 1)).run Try.prog (w.alloc (.cells #[.int .u8 b.toNat] 5)) = .ok (.string ⟨#[b]⟩) (w.alloc (.cells #[.int .u8 b.toNat] 5)) := hrun
  clear hown hrun
  go_enter Try.func82, Try.ntmps82
  go_wp2
  go_ret
  exact ⟨rfl, (Below.refl _ _).alloc (Nat.le_refl _) _⟩

theorem c__impl_sign__itself_34 (w : World) : Calls Try.prog 82 #[.int .u8 34] w fun e w' => e = .returned (.string ⟨#[34]⟩) ∧ Below w.heap.size w w' := c__impl_sign__itself 34 w
theorem c__impl_sign__itself_62 (w : World) : Calls Try.prog 82 #[.int .u8 62] w fun e w' => e = .returned (.string ⟨#[62]⟩) ∧ Below w.heap.size w w' := c__impl_sign__itself 62 w

theorem ret_str {a b : List UInt8} (h : a = b) : Ending.returned (.string ⟨a.toArray⟩) = .returned (.string ⟨b.toArray⟩) := by rw [h]

theorem c__impl_sign__inText (b : UInt8) (w : World) :
    Calls Try.prog 84 #[.int .u8 b.toNat] w fun e w' => e = .returned (.string ⟨(escB false b).toArray⟩) ∧ Below w.heap.size w w' := by
  have cases : (b.toNat : Int) = 38 ∨ (b.toNat : Int) = 60 ∨ (b.toNat : Int) = 62 ∨ (b.toNat : Int) = 34 ∨ (¬ (b.toNat : Int) = 38 ∧ ¬ (b.toNat : Int) = 60 ∧ ¬ (b.toNat : Int) = 62 ∧ ¬ (b.toNat : Int) = 34) := by omega
  rcases cases with h | h | h | h | ⟨h0, h1, h2, h3⟩
  · have e : escB false b = [38, 97, 109, 112, 59] := by unfold escB; rw [if_pos (by omega)]
    have g0 : (b.toNat : Int) ≤ 38 := by omega
    have g1 : (38 : Int) ≤ b.toNat := by omega
    rw [e]; clear e h
    go_enter Try.func84, Try.ntmps84
    go_wp2_with (go_at_call 95; refine (c__impl_sign__reference_amp b _ g0 g1).mono ?_; rintro e w' ⟨rfl, rfl⟩)
    go_ret
    exact ⟨rfl, Below.refl _ _⟩
  · have e : escB false b = [38, 108, 116, 59] := by unfold escB; rw [if_neg (by omega), if_pos (by omega)]
    have g0 : (b.toNat : Int) ≤ 60 := by omega
    have g1 : (60 : Int) ≤ b.toNat := by omega
    rw [e]; clear e h
    go_enter Try.func84, Try.ntmps84
    go_wp2_with (go_at_call 95; refine (c__impl_sign__reference_lt b _ g0 g1).mono ?_; rintro e w' ⟨rfl, rfl⟩)
    go_ret
    exact ⟨rfl, Below.refl _ _⟩
  · have e : escB false b = [38, 103, 116, 59] := by unfold escB; rw [if_neg (by omega), if_neg (by omega), if_pos (by omega)]; rfl
    have g0 : (b.toNat : Int) ≤ 62 := by omega
    have g1 : (62 : Int) ≤ b.toNat := by omega
    rw [e]; clear e h
    go_enter Try.func84, Try.ntmps84
    go_wp2_with (go_at_call 95; refine (c__impl_sign__reference_gt b _ g0 g1).mono ?_; rintro e w' ⟨rfl, rfl⟩)
    go_ret
    exact ⟨rfl, Below.refl _ _⟩
  · have e : escB false b = [b] := by unfold escB; rw [if_neg (by omega), if_neg (by omega), if_neg (by omega), if_pos (by omega)]; rfl
    rw [e]; clear e
    obtain rfl : b = 34 := UInt8.toNat_inj.1 (show b.toNat = 34 by omega)
    clear h
    go_enter Try.func84, Try.ntmps84
    go_wp2_with (go_at_call 82; refine (c__impl_sign__itself_34 _).mono ?_; rintro e w' ⟨rfl, hb⟩)
    go_ret
    exact ⟨rfl, hb⟩
  · have e : escB false b = [b] := by unfold escB; rw [if_neg (by omega), if_neg (by omega), if_neg (by omega), if_neg (by omega)]
    rw [e]; clear e
    go_enter Try.func84, Try.ntmps84
    go_wp2_with (first | (go_at_call 95; refine (c__impl_sign__reference_no b _ h0 h1 h2 h3).mono ?_; rintro e w' ⟨rfl, rfl⟩) | (go_at_call 82; refine (c__impl_sign__itself b _).mono ?_; rintro e w' ⟨rfl, hb⟩))
    go_ret
    exact ⟨rfl, hb⟩

theorem c__impl_sign__inQuotes (b : UInt8) (w : World) :
    Calls Try.prog 85 #[.int .u8 b.toNat] w fun e w' => e = .returned (.string ⟨(escB true b).toArray⟩) ∧ Below w.heap.size w w' := by
  have cases : (b.toNat : Int) = 38 ∨ (b.toNat : Int) = 60 ∨ (b.toNat : Int) = 62 ∨ (b.toNat : Int) = 34 ∨ (¬ (b.toNat : Int) = 38 ∧ ¬ (b.toNat : Int) = 60 ∧ ¬ (b.toNat : Int) = 62 ∧ ¬ (b.toNat : Int) = 34) := by omega
  rcases cases with h | h | h | h | ⟨h0, h1, h2, h3⟩
  · have e : escB true b = [38, 97, 109, 112, 59] := by unfold escB; rw [if_pos (by omega)]
    have g0 : (b.toNat : Int) ≤ 38 := by omega
    have g1 : (38 : Int) ≤ b.toNat := by omega
    rw [e]; clear e h
    go_enter Try.func85, Try.ntmps85
    go_wp2_with (go_at_call 95; refine (c__impl_sign__reference_amp b _ g0 g1).mono ?_; rintro e w' ⟨rfl, rfl⟩)
    go_ret
    exact ⟨rfl, Below.refl _ _⟩
  · have e : escB true b = [38, 108, 116, 59] := by unfold escB; rw [if_neg (by omega), if_pos (by omega)]
    have g0 : (b.toNat : Int) ≤ 60 := by omega
    have g1 : (60 : Int) ≤ b.toNat := by omega
    rw [e]; clear e h
    go_enter Try.func85, Try.ntmps85
    go_wp2_with (go_at_call 95; refine (c__impl_sign__reference_lt b _ g0 g1).mono ?_; rintro e w' ⟨rfl, rfl⟩)
    go_ret
    exact ⟨rfl, Below.refl _ _⟩
  · have e : escB true b = [b] := by unfold escB; rw [if_neg (by omega), if_neg (by omega), if_pos (by omega)]; rfl
    rw [e]; clear e
    obtain rfl : b = 62 := UInt8.toNat_inj.1 (show b.toNat = 62 by omega)
    clear h
    go_enter Try.func85, Try.ntmps85
    go_wp2_with (go_at_call 82; refine (c__impl_sign__itself_62 _).mono ?_; rintro e w' ⟨rfl, hb⟩)
    go_ret
    exact ⟨rfl, hb⟩
  · have e : escB true b = [38, 113, 117, 111, 116, 59] := by unfold escB; rw [if_neg (by omega), if_neg (by omega), if_neg (by omega), if_pos (by omega)]; rfl
    have g0 : (b.toNat : Int) ≤ 34 := by omega
    have g1 : (34 : Int) ≤ b.toNat := by omega
    rw [e]; clear e h
    go_enter Try.func85, Try.ntmps85
    go_wp2_with (go_at_call 95; refine (c__impl_sign__reference_quot b _ g0 g1).mono ?_; rintro e w' ⟨rfl, rfl⟩)
    go_ret
    exact ⟨rfl, Below.refl _ _⟩
  · have e : escB true b = [b] := by unfold escB; rw [if_neg (by omega), if_neg (by omega), if_neg (by omega), if_neg (by omega)]
    rw [e]; clear e
    go_enter Try.func85, Try.ntmps85
    go_wp2_with (first | (go_at_call 95; refine (c__impl_sign__reference_no b _ h0 h1 h2 h3).mono ?_; rintro e w' ⟨rfl, rfl⟩) | (go_at_call 82; refine (c__impl_sign__itself b _).mono ?_; rintro e w' ⟨rfl, hb⟩))
    go_ret
    exact ⟨rfl, hb⟩

end Go.Proofs.Ytkcmagfbacmllab
