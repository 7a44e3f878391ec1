/- Contracts of the functions that ask whether bytes are plain. -/
import Derived.Test.YtlghhemmmjahnaaRows
import Derived.Test.YtlghhemmmjahnaaSEMath
import Derived.WalkKit
namespace Go.Proofs.Ytlghhemmmjahnaa
open Go.RowKit

theorem ret_boolE {a b : Bool} (h : a = b) : Ending.returned (.bool a) = .returned (.bool b) := by rw [h]

theorem c_spec_l1Plain (c : Int) (w : World) (h0 : 0 ≤ c) (h1 : c ≤ 255) :
    Calls Try.prog 98 #[.int .u8 c] w fun e w' => e = .returned (.bool (plainB c)) ∧ w' = w := by
  go_enter Try.func98, Try.ntmps98
  go_wp2
  all_goals go_ret
  all_goals exact ⟨ret_boolE (by rw [Bool.eq_iff_iff]; simp [plainB]; omega), rfl⟩

theorem c__impl_sign__plain (c : Int) (w : World) (h0 : 0 ≤ c) (h1 : c ≤ 255) :
    Calls Try.prog 102 #[.int .u8 c] w fun e w' => e = .returned (.bool (plainB c)) ∧ w' = w := by
  go_enter Try.func102, Try.ntmps102
  go_wp2
  all_goals go_ret
  all_goals exact ⟨ret_boolE (by rw [Bool.eq_iff_iff]; simp [plainB]; try omega), rfl⟩

theorem c_spec_PlainOk (s : ByteArray) (w : World) (hs : s.size ≤ maxLen) :
    Calls Try.prog 87 #[.string s] w fun e w' => e = .returned (.bool (plainL s.data.toList)) ∧ w' = w := by
  unfold maxLen at hs
  go_enter Try.func87, Try.ntmps87
  go_wp2
  go_loop [3] (fun i => ∃ k : Nat, k ≤ s.size ∧ i = .int .i64 k ∧ plainL (s.data.toList.take k) = true) (fun i => s.size - (intOf i).toNat)
  case atStart => exact ⟨0, Nat.zero_le _, rfl, rfl⟩
  case round =>
    obtain ⟨k, hk, rfl, hp⟩ := hrel
    by_cases hlt : k < s.size
    · have HP : Hid (plainL (s.data.toList.take k) = true) := hp
      clear hp
      have hb : (s[k].toNat : Int) ≤ 255 := by have := s[k].toNat_lt; omega
      cases hc : plainB s[k].toNat
      · go_wp2_with (go_at_call 98; refine (c_spec_l1Plain _ _ (by omega) hb).mono ?_; rintro e w' ⟨rfl, rfl⟩)
        go_ret
        exact ⟨ret_boolE (plainL_no s k hlt hc).symm, rfl⟩
      · go_wp2_with (go_at_call 98; refine (c_spec_l1Plain _ _ (by omega) hb).mono ?_; rintro e w' ⟨rfl, rfl⟩)
        go_round
        case rel => exact ⟨k + 1, by omega, by go_num, by rw [take_snocE s k hlt, plainL_snoc, HP.out, hc]; rfl⟩
        case measure => simp [intOf]; omega
    · go_wp2
      go_ret
      exact ⟨ret_boolE (by rw [← plainL_full s k hlt]; exact hp.symm), rfl⟩

theorem c_impl_allSignsE (s : ByteArray) (w : World) (hs : s.size ≤ maxLen) :
    Calls Try.prog 92 #[.string s, .func (.func 102) #[] #[]] w fun e w' => e = .returned (.bool (plainL s.data.toList)) ∧ w' = w := by
  unfold maxLen at hs
  go_enter Try.func92, Try.ntmps92
  go_wp2
  go_loop [8] (fun i => ∃ k : Nat, k ≤ s.size ∧ i = .int .i64 k ∧ plainL (s.data.toList.take k) = true) (fun i => s.size - (intOf i).toNat)
  case atStart => exact ⟨0, Nat.zero_le _, rfl, rfl⟩
  case round =>
    obtain ⟨k, hk, rfl, hp⟩ := hrel
    by_cases hlt : k < s.size
    · have HP : Hid (plainL (s.data.toList.take k) = true) := hp
      clear hp
      have hb : (s[k].toNat : Int) ≤ 255 := by have := s[k].toNat_lt; omega
      cases hc : plainB s[k].toNat
      · go_wp2_with (go_at_call 102; refine (c__impl_sign__plain _ _ (by omega) hb).mono ?_; rintro e w' ⟨rfl, rfl⟩)
        go_ret
        exact ⟨ret_boolE (plainL_no s k hlt hc).symm, rfl⟩
      · go_wp2_with (go_at_call 102; refine (c__impl_sign__plain _ _ (by omega) hb).mono ?_; rintro e w' ⟨rfl, rfl⟩)
        go_round
        case rel => exact ⟨k + 1, by omega, by go_num, by rw [take_snocE s k hlt, plainL_snoc, HP.out, hc]; rfl⟩
        case measure => simp [intOf]; omega
    · go_wp2
      go_ret
      exact ⟨ret_boolE (by rw [← plainL_full s k hlt]; exact hp.symm), rfl⟩

theorem c_impl_PlainOk (s : ByteArray) (w : World) (hs : s.size ≤ maxLen) :
    Calls Try.prog 96 #[.string s] w fun e w' => e = .returned (.bool (plainL s.data.toList)) ∧ w' = w := by
  go_enter Try.func96, Try.ntmps96
  go_wp2_with (go_at_call 92; refine (c_impl_allSignsE _ _ hs).mono ?_; rintro e w' ⟨rfl, rfl⟩)
  go_ret
  exact ⟨rfl, rfl⟩

end Go.Proofs.Ytlghhemmmjahnaa
