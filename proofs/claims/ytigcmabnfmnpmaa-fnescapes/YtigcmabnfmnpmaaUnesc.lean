/- Contract of impl.Unescaped: it answers what unescL says. -/
import Derived.Test.YtigcmabnfmnpmaaRows
import Derived.Test.YtigcmabnfmnpmaaMathU
import Derived.Test.YtigcmabnfmnpmaaKit
import Derived.Test.YtigcmabnfmnpmaaPlain
import Derived.Test.YtigcmabnfmnpmaaRead
import Derived.Test.YtigcmabnfmnpmaaBuilder
import Derived.WalkKit
namespace Go.Proofs.Ytigcmabnfmnpmaa
open Go.RowKit
set_option linter.unusedVariables false
set_option linter.unusedSimpArgs false

theorem sz (s : ByteArray) : s.size = s.data.toList.length := rfl

theorem ext_list (s : ByteArray) (k : Nat) : (s.extract k s.size).data.toList = s.data.toList.drop k := by
  rw [ByteArray.data_extract, Array.toList_extract, List.extract_eq_take_drop]
  exact List.take_of_length_le (by rw [List.length_drop, sz s]; exact Nat.le_refl _)

theorem ext_size (s : ByteArray) (k : Nat) : (s.extract k s.size).size = s.size - k := by
  rw [sz (s.extract k s.size), ext_list, List.length_drop, sz s]

theorem drop_ne (s : ByteArray) (k : Nat) (h : k < s.size) : s.data.toList.drop k ≠ [] := by
  intro e
  have := congrArg List.length e
  rw [List.length_drop, ← sz s] at this
  simp only [List.length_nil] at this
  omega

theorem drop_len (s : ByteArray) (k : Nat) : (s.data.toList.drop k).length = s.size - k := by rw [List.length_drop, sz s]

/-- What the loop holds at its head, at position k. -/
def Reads (s : ByteArray) (k : Nat) (acc : List UInt8) : Prop :=
  acc.length ≤ k ∧ ∃ f, s.size - k ≤ f ∧ runU s.data.toList.length s.data.toList [] = runU f (s.data.toList.drop k) acc

theorem reads_start (s : ByteArray) : Reads s 0 [] := ⟨Nat.le_refl _, s.data.toList.length, by rw [sz s]; exact Nat.sub_le _ _, rfl⟩

theorem reads_step {s : ByteArray} {k : Nat} {acc : List UInt8} {x : UInt8} {n : Nat} (h : Reads s k acc) (hlt : k < s.size) (hr : readL (s.data.toList.drop k) = some (x, n)) : Reads s (k + n) (acc ++ [x]) := by
  obtain ⟨hl, f, hf, he⟩ := h
  have hb := readL_le _ _ _ hr
  have hd := drop_len s k
  cases f with
  | zero => omega
  | succ f =>
    refine ⟨by rw [List.length_append]; simp; omega, f, by omega, ?_⟩
    rw [he, runU_step f _ _ x n (by omega) (drop_ne s k hlt) hr, List.drop_drop]

theorem reads_none {s : ByteArray} {k : Nat} {acc : List UInt8} (h : Reads s k acc) (hlt : k < s.size) (hp : plainL s.data.toList = true) (hr : readL (s.data.toList.drop k) = none) : unescL s.data.toList = none := by
  obtain ⟨hl, f, hf, he⟩ := h
  rw [unescL, if_pos hp, he]
  exact runU_stop f _ _ (by rw [drop_len]; exact hf) (drop_ne s k hlt) hr

theorem reads_end {s : ByteArray} {k : Nat} {acc : List UInt8} (h : Reads s k acc) (hlt : ¬ k < s.size) (hp : plainL s.data.toList = true) : unescL s.data.toList = some acc := by
  obtain ⟨hl, f, hf, he⟩ := h
  have hd : s.data.toList.drop k = [] := List.drop_of_length_le (by rw [← sz s]; omega)
  rw [unescL, if_pos hp, he, hd]
  exact runU_end f acc

theorem unesc_no {s : ByteArray} (hp : plainL s.data.toList = false) : unescL s.data.toList = none := by
  rw [unescL, if_neg (by simp [hp])]

theorem byteCells_snoc (acc : List UInt8) (x : UInt8) : Lib.byteCells (acc ++ [x]) = Lib.byteCells acc ++ [.int .u8 x.toNat] := by simp [Lib.byteCells]

set_option maxHeartbeats 1000000 in
theorem c11_no (s : ByteArray) (w : World) (h0 : s.size ≤ 1048576) (hp : plainL s.data.toList = false) :
    Calls Try.prog 11 #[.string s] w fun e w' => e = .returned (.tuple #[.string ⟨(outU (unescL s.data.toList)).toArray⟩, .bool (unescL s.data.toList).isSome]) ∧ Below w.heap.size w w' := by
  rw [unesc_no hp]
  go_enter Try.func11, Try.ntmps11
  go_wp2_with (go_at_call 14; refine (c14 _ _ (by unfold maxLen; omega)).mono ?_; rintro e w' ⟨rfl, rfl⟩)
  go_ret2
  exact ⟨rfl, Below.refl _ _⟩

set_option maxHeartbeats 1000000 in
theorem c11_yes (s : ByteArray) (w : World) (h0 : s.size ≤ 1048576) (hp : plainL s.data.toList = true) :
    Calls Try.prog 11 #[.string s] w fun e w' => e = .returned (.tuple #[.string ⟨(outU (unescL s.data.toList)).toArray⟩, .bool (unescL s.data.toList).isSome]) ∧ Below w.heap.size w w' := by
  go_enter Try.func11, Try.ntmps11
  go_wp2_with (go_at_call 14; refine (c14 _ _ (by unfold maxLen; omega)).mono ?_; rintro e w' ⟨rfl, rfl⟩)
  have HP : Hid (plainL s.data.toList = true) := hp
  clear hp
  go_loopw [5] (fun i wr => ∃ (k : Nat) (acc : List UInt8), k ≤ s.size ∧ i = .int .i64 k ∧ Reads s k acc ∧ Lib.IsBuilder 41 5 w'.heap.size w'.heap.size (Lib.byteCells acc) wr ∧ Below w'.heap.size w' wr) (fun i _ => s.size - (intOf i).toNat)
  case atStart => exact ⟨0, [], Nat.zero_le _, rfl, reads_start s, Lib.fresh_isBuilder 41 5 _, (Below.refl _ _).alloc (Nat.le_refl _) _⟩
  case round =>
    obtain ⟨k, acc, hk, rfl, hR, hI, hB⟩ := hrel
    have hsz := hB.size
    have HI : Hid (Lib.IsBuilder 41 5 w'.heap.size w'.heap.size (Lib.byteCells acc) wr) := hI
    have HR : Hid (Reads s k acc) := hR
    have hal : acc.length ≤ k := hR.1
    clear hI hR
    by_cases hlt : k < s.size
    · have hes := ext_size s k
      have hel := ext_list s k
      have ht : 0 < (s.extract k s.size).size := by rw [hes]; omega
      have hm : (s.extract k s.size).size ≤ 9223372036854775807 := by rw [hes]; omega
      cases hr : readL (s.data.toList.drop k) with
      | none =>
        have hr' : readL (s.extract k s.size).data.toList = none := by rw [hel]; exact hr
        have C := fun w => c25_no (s.extract k s.size) w ht hm hr'
        have HU : Hid (unescL s.data.toList = none) := reads_none HR.out hlt HP.out hr
        clear hes hel hr hr' ht hm
        go_wp2_with (go_at_call 25; refine (C _).mono ?_; rintro e w1 ⟨rfl, rfl⟩)
        go_ret2
        exact ⟨by rw [HU.out]; rfl, hB⟩
      | some p =>
        obtain ⟨x, n⟩ := p
        have hr' : readL (s.extract k s.size).data.toList = some (x, n) := by rw [hel]; exact hr
        have C := fun w => c25_some (s.extract k s.size) w ht hm x n hr'
        have hn := readL_le _ _ _ hr
        rw [drop_len] at hn
        have hn1 := hn.1
        have hn2 : k + n ≤ s.size := by omega
        have HS : Hid (Reads s (k + n) (acc ++ [x])) := reads_step HR.out hlt hr
        clear hes hel hr hr' ht hm hn
        go_wp2_with (first
          | (go_at_call 25; refine (C _).mono ?_; rintro e w1 ⟨rfl, rfl⟩)
          | (go_at_call 26; refine (writeByte _ _ _ _ _ HI.out (by rw [Lib.byteCells_length]; omega) hsz).mono ?_; rintro e w2 ⟨rfl, hI2, hb2⟩))
        go_roundw
        case rel => exact ⟨k + n, acc ++ [x], by omega, by go_num, HS.out, by rw [byteCells_snoc]; exact hI2, hB.trans hb2⟩
        case measure => simp [intOf]; omega
    · have HU : Hid (unescL s.data.toList = some acc) := reads_end HR.out hlt HP.out
      go_wp2_with (go_at_call 23; refine (Try.Builder_String_any _ _ _ _ HI.out hsz).mono ?_; rintro e w2 ⟨rfl, hb2⟩)
      go_ret2
      exact ⟨by rw [HU.out]; rfl, hB.trans hb2⟩

theorem c11 (s : ByteArray) (w : World) (h0 : s.size ≤ 1048576) :
    Calls Try.prog 11 #[.string s] w fun e w' => e = .returned (.tuple #[.string ⟨(outU (unescL s.data.toList)).toArray⟩, .bool (unescL s.data.toList).isSome]) ∧ Below w.heap.size w w' := by
  cases hp : plainL s.data.toList
  · exact c11_no s w h0 hp
  · exact c11_yes s w h0 hp

end Go.Proofs.Ytigcmabnfmnpmaa
