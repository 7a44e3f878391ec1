/- Contracts of impl: letters, the first colon, a name split, NameOk. -/
import Derived.Test.YtnddphmcagcdiaaRows
import Derived.Test.YtnddphmcagcdiaaSNMath
import Derived.Test.YtnddphmcagcdiaaKit
import Derived.WalkKit
import Derived.Deep.QuietTactic
import Derived.BigQuiet
namespace Go.Proofs.Ytnddphmcagcdiaa
open Go.RowKit
set_option linter.unusedVariables false
set_option linter.unusedSimpArgs false

theorem ret_bool {a b : Bool} (h : a = b) : Ending.returned (.bool a) = .returned (.bool b) := by rw [h]

def colonI (l : List UInt8) : Int := match colonAt l with
  | none => -1
  | some a => a

theorem colonI_at (s : ByteArray) (k : Nat) (h : k < s.size) (hc : s[k].toNat = 58) (hn : ∀ c ∈ s.data.toList.take k, ¬ c.toNat = 58) : colonI s.data.toList = k := by
  have e : colonAt s.data.toList = some k := by
    unfold colonAt
    rw [List.findIdx?_eq_some_iff_getElem]
    have hl : k < s.data.toList.length := h
    refine ⟨hl, by show (s[k].toNat == 58) = true; rw [hc]; rfl, fun j hj => ?_⟩
    have : s.data.toList[j] ∈ s.data.toList.take k := by
      rw [List.mem_take_iff_getElem]
      exact ⟨j, by omega, rfl⟩
    simpa using hn _ this
  simp [colonI, e]

theorem colonI_no (l : List UInt8) (hn : ∀ c ∈ l, ¬ c.toNat = 58) : colonI l = -1 := by
  have e : colonAt l = none := by
    unfold colonAt
    rw [List.findIdx?_eq_none_iff]
    intro x hx
    simpa using hn x hx
  simp [colonI, e]

theorem ext_pre (s : ByteArray) (a : Nat) : s.extract 0 a = ⟨(s.data.toList.take a).toArray⟩ := by
  have := ByteArray.extract_mk s.data.toList 0 a
  simpa using this

theorem ext_loc (s : ByteArray) (a : Nat) : s.extract a s.size = ⟨(s.data.toList.drop a).toArray⟩ := by
  have h := ByteArray.extract_mk s.data.toList a s.size
  have e : (s.data.toList.drop a).take (s.size - a) = s.data.toList.drop a := List.take_of_length_le (by rw [List.length_drop, sz s]; exact Nat.le_refl _)
  rw [e] at h
  simpa using h

theorem colonI_lt (l : List UInt8) (a : Nat) (h : colonAt l = some a) : a < l.length := by
  unfold colonAt at h
  obtain ⟨ha, _, _⟩ := List.findIdx?_eq_some_iff_getElem.1 h
  exact ha


end Go.Proofs.Ytnddphmcagcdiaa
