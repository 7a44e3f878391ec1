/- Contracts of impl: letters, the first colon, a name split, NameOk. Contracts of impl: letters, the first colon, a name split, NameOk. -/
import Derived.Test.YtnjepdggefchnaaGreatDoorRows
import Derived.Test.YtnjepdggefchnaaGreatDoorM1
import Derived.WalkKit
import Derived.Deep.QuietTactic
import Derived.BigQuiet
namespace Go.Proofs.YtnjepdggefchnaaGreatDoor
open Go.RowKit
set_option linter.unusedVariables false
set_option linter.unusedSimpArgs false

theorem ret_bool {a b : Bool} (h : a = b) : Ending.returned (.bool a) = .returned (.bool b) := by rw [h]

theorem c__impl_sign__letter (c : Int) (w : World) (h0 : 0 ≤ c) (h1 : c ≤ 255) :
    Calls Tryz.prog 88 #[.int .u8 c] w fun e w' => e = .returned (.bool (letB c)) ∧ w' = w := by
  go_enter Tryz.func88, Tryz.ntmps88
  go_wp2
  all_goals go_ret
  all_goals exact ⟨ret_bool (by rw [Bool.eq_iff_iff]; simp [letB]; try omega), rfl⟩

theorem c_impl_allSigns (s : ByteArray) (w : World) (hs : s.size ≤ maxLen) :
    Calls Tryz.prog 75 #[.string s, .func (.func 88) #[] #[]] w fun e w' => e = .returned (.bool (allL s.data.toList)) ∧ w' = w := by
  unfold maxLen at hs
  go_enter Tryz.func75, Tryz.ntmps75
  go_wp2
  go_loop [8] (fun i => ∃ k : Nat, k ≤ s.size ∧ i = .int .i64 k ∧ allL (s.data.toList.take k) = true) (fun i => s.size - (intOf i).toNat)
  case atStart => exact ⟨0, Nat.zero_le _, rfl, rfl⟩
  case round =>
    obtain ⟨k, hk, rfl, hp⟩ := hrel
    by_cases hlt : k < s.size
    · have HP : Hid (allL (s.data.toList.take k) = true) := hp
      clear hp
      have hb : (s[k].toNat : Int) ≤ 255 := by have := s[k].toNat_lt; omega
      cases hc : letB s[k].toNat
      · go_wp2_with (go_at_call 88; refine (c__impl_sign__letter _ _ (by omega) hb).mono ?_; rintro e w' ⟨rfl, rfl⟩)
        go_ret
        exact ⟨ret_bool (allL_no s k hlt hc).symm, rfl⟩
      · go_wp2_with (go_at_call 88; refine (c__impl_sign__letter _ _ (by omega) hb).mono ?_; rintro e w' ⟨rfl, rfl⟩)
        go_round
        case rel => exact ⟨k + 1, by omega, by go_num, by rw [take_snoc s k hlt, allL_snoc, HP.out, hc]; rfl⟩
        case measure => simp [intOf]; omega
    · go_wp2
      go_ret
      exact ⟨ret_bool (by rw [← take_full s k hlt]; exact hp.symm), rfl⟩

def colonI (l : List UInt8) : Int := match colonAt l with
  | none => -1
  | some a => a

theorem colonI_at (s : ByteArray) (k : Nat) (h : k < s.size) (hc : s[k].toNat = 58) (hn : ∀ c ∈ s.data.toList.take k, ¬ c.toNat = 58) : colonI s.data.toList = k := by
  have e : colonAt s.data.toList = some k := by
    unfold colonAt
    rw [List.findIdx?_eq_some_iff_getElem]
    have hl : k < s.data.toList.length := h
    refine ⟨hl, by show (s[k].toNat == 58) = true; rw [hc]; rfl, fun j hj => ?_⟩
    have : s.data.toList[j] ∈ s.data.toList.take k := by
      rw [List.mem_take_iff_getElem]
      exact ⟨j, by omega, rfl⟩
    simpa using hn _ this
  simp [colonI, e]

theorem colonI_no (l : List UInt8) (hn : ∀ c ∈ l, ¬ c.toNat = 58) : colonI l = -1 := by
  have e : colonAt l = none := by
    unfold colonAt
    rw [List.findIdx?_eq_none_iff]
    intro x hx
    simpa using hn x hx
  simp [colonI, e]

theorem ext_pre (s : ByteArray) (a : Nat) : s.extract 0 a = ⟨(s.data.toList.take a).toArray⟩ := by
  have := ByteArray.extract_mk s.data.toList 0 a
  simpa using this

theorem ext_loc (s : ByteArray) (a : Nat) : s.extract a s.size = ⟨(s.data.toList.drop a).toArray⟩ := by
  have h := ByteArray.extract_mk s.data.toList a s.size
  have e : (s.data.toList.drop a).take (s.size - a) = s.data.toList.drop a := List.take_of_length_le (by rw [List.length_drop, sz s]; exact Nat.le_refl _)
  rw [e] at h
  simpa using h

theorem colonI_lt (l : List UInt8) (a : Nat) (h : colonAt l = some a) : a < l.length := by
  unfold colonAt at h
  obtain ⟨ha, _, _⟩ := List.findIdx?_eq_some_iff_getElem.1 h
  exact ha


end Go.Proofs.YtnjepdggefchnaaGreatDoor

namespace Go.Proofs.YtnjepdggefchnaaGreatDoor
open Go.RowKit
set_option linter.unusedVariables false
set_option linter.unusedSimpArgs false

end Go.Proofs.YtnjepdggefchnaaGreatDoor
