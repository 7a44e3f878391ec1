/- Contracts of impl: letters, the first colon, a name split, NameOk. -/
import Derived.Test.YtlghhemmmjahnaaRows
import Derived.Test.YtlghhemmmjahnaaSNMath
import Derived.Test.YtlghhemmmjahnaaKit
import Derived.Test.YtlghhemmmjahnaaSNImplA
import Derived.WalkKit
import Derived.Deep.QuietTactic
import Derived.BigQuiet
namespace Go.Proofs.Ytlghhemmmjahnaa
open Go.RowKit
set_option linter.unusedVariables false
set_option linter.unusedSimpArgs false

set_option maxHeartbeats 1000000 in
theorem c_impl_splitName (s : ByteArray) (w : World) (h0 : s.size ≤ 1048576) :
    Calls Try.prog 54 #[.string s] w fun e w' => e = .returned (.tuple #[.string ⟨(preL s.data.toList).toArray⟩, .string ⟨(locL s.data.toList).toArray⟩, .bool (nameL s.data.toList)]) ∧ Below w.heap.size w w' := by
  have hs : s.size ≤ maxLen := by unfold maxLen; omega
  cases h : colonAt s.data.toList with
  | none =>
    have hC : colonI s.data.toList = -1 := by simp [colonI, h]
    have e1 : preL s.data.toList = [] := by simp [preL, h]
    have e2 : locL s.data.toList = s.data.toList := by simp [locL, h]
    have e3 : nameL s.data.toList = lettersL s.data.toList := by simp [nameL, h]
    have C := fun w => c_impl_firstSign s w hs
    rw [e1, e2, e3]
    rw [hC] at C
    clear e1 e2 e3 hC h
    go_enter Try.func54, Try.ntmps54
    go_wp2_with (first | (go_at_call 77; refine (C _).mono ?_; rintro e w' ⟨rfl, rfl⟩) | (go_at_call 79; refine (c_impl_lettersOk _ _ hs).mono ?_; rintro e w' ⟨rfl, rfl⟩))
    go_ret3
    exact ⟨rfl, Below.refl _ _⟩
  | some a =>
    have hC : colonI s.data.toList = a := by simp [colonI, h]
    have e1 : preL s.data.toList = s.data.toList.take a := by simp [preL, h]
    have e2 : locL s.data.toList = s.data.toList.drop (a + 1) := by simp [locL, h]
    have e3 : nameL s.data.toList = (lettersL (preL s.data.toList) && lettersL (locL s.data.toList)) := by simp [nameL, h]
    have ha : a < s.size := colonI_lt _ _ h
    have C := fun w => c_impl_firstSign s w hs
    have c1 := ext_pre s a
    have c2 := ext_loc s (a + 1)
    rw [e3, e1, e2, ← c1, ← c2]
    have z1 : (s.extract 0 a).size ≤ maxLen := by rw [ByteArray.size_extract]; unfold maxLen; omega
    have z2 : (s.extract (a + 1) s.size).size ≤ maxLen := by rw [ByteArray.size_extract]; unfold maxLen; omega
    have L1 : ∀ w, Calls Try.prog 79 #[.string (s.extract 0 a)] w fun e w' => e = .returned (.bool (lettersL (s.data.toList.take a))) ∧ w' = w := fun w => by
      have := c_impl_lettersOk (s.extract 0 a) w z1
      rw [show (s.extract 0 a).data.toList = s.data.toList.take a by rw [c1]] at this
      exact this
    have L2 : ∀ w, Calls Try.prog 79 #[.string (s.extract (a + 1) s.size)] w fun e w' => e = .returned (.bool (lettersL (s.data.toList.drop (a + 1)))) ∧ w' = w := fun w => by
      have := c_impl_lettersOk (s.extract (a + 1) s.size) w z2
      rw [show (s.extract (a + 1) s.size).data.toList = s.data.toList.drop (a + 1) by rw [c2]] at this
      exact this
    have hs1 : ∀ W, (Instr.slice 9 (.string s) none (some (.int .i64 a)) none).run Try.prog W = .ok (.string (s.extract 0 a)) W := fun W => by
      have := run_slice_string_h (P := Try.prog) W 9 s Try.underlying9 .i64 (a : Int) (by omega) (by omega)
      simpa using this
    have hs2 : ∀ W, (Instr.slice 9 (.string s) (some (.int .i64 ((a : Int) + 1))) none none).run Try.prog W = .ok (.string (s.extract (a + 1) s.size)) W := fun W => by
      have := run_slice_string_l (P := Try.prog) W 9 s Try.underlying9 .i64 ((a : Int) + 1) (by omega) (by omega)
      simpa using this
    have hw : IntKind.i64.wrap ((a : Int) + 1) = (a : Int) + 1 := IntWalk.i64_in _ (by omega)
    have hn : ¬ (a : Int) < 0 := by omega
    rw [hC] at C
    clear e1 e2 e3 hC c1 c2 z1 z2 h
    obtain ⟨x, hx⟩ : ∃ x, s.extract 0 a = x := ⟨_, rfl⟩
    obtain ⟨y, hy⟩ : ∃ y, s.extract (a + 1) s.size = y := ⟨_, rfl⟩
    rw [hx] at L1 hs1 ⊢
    rw [hy] at L2 hs2 ⊢
    clear hx hy
    cases hb : lettersL (s.data.toList.take a) with
    | true =>
      rw [hb] at L1
      clear hb
      have H1 : Hid (∀ w, Calls Try.prog 79 #[.string x] w fun e w' => e = .returned (.bool true) ∧ w' = w) := L1
      have H2 : Hid (∀ w, Calls Try.prog 79 #[.string y] w fun e w' => e = .returned (.bool (lettersL (s.data.toList.drop (a + 1)))) ∧ w' = w) := L2
      clear L1 L2
      go_enter Try.func54, Try.ntmps54
      go_wp2_with (go_at_call 77; refine (C _).mono ?_; rintro e w' ⟨rfl, rfl⟩)
      go_quiet (fail)
      clear hs1 hs2 hw
      go_wp2_with fail
      refine (H1.out _).mono ?_
      rintro e w1 ⟨rfl, rfl⟩
      go_wp2_with fail
      refine (H2.out _).mono ?_
      rintro e w1 ⟨rfl, rfl⟩
      go_wp2
      go_ret3
      exact ⟨rfl, ⟨rfl, rfl, rfl, Nat.le_refl _, fun _ _ => rfl⟩⟩
    | false =>
      rw [hb] at L1
      clear hb
      have H1 : Hid (∀ w, Calls Try.prog 79 #[.string x] w fun e w' => e = .returned (.bool false) ∧ w' = w) := L1
      have H2 : Hid (∀ w, Calls Try.prog 79 #[.string y] w fun e w' => e = .returned (.bool (lettersL (s.data.toList.drop (a + 1)))) ∧ w' = w) := L2
      clear L1 L2
      go_enter Try.func54, Try.ntmps54
      go_wp2_with (go_at_call 77; refine (C _).mono ?_; rintro e w' ⟨rfl, rfl⟩)
      go_quiet (fail)
      clear hs1 hs2 hw
      go_wp2_with (go_at_call 79; refine (H1.out _).mono ?_; rintro e w' ⟨rfl, rfl⟩)
      go_ret3
      exact ⟨rfl, ⟨rfl, rfl, rfl, Nat.le_refl _, fun _ _ => rfl⟩⟩

end Go.Proofs.Ytlghhemmmjahnaa
