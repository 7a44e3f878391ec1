/- Contracts of impl: letters, the first colon, a name split, NameOk. Contracts of strings.Clone, impl.NameOk and impl.Parts. -/
import Derived.Test.YtcjeodgfpnecgaaRows
import Derived.Test.YtcjeodgfpnecgaaM6
import Derived.Test.YtcjeodgfpnecgaaM1
import Derived.Test.YtcjeodgfpnecgaaM7
import Derived.WalkKit
import Derived.Deep.QuietTactic
import Derived.BigQuiet
import Derived.OwnWalk
import Derived.Lib.BufferWrite
import Derived.Lib.UnsafeStr
import Derived.Laws.CopyOwn
namespace Go.Proofs.Ytcjeodgfpnecgaa
open Go.RowKit
set_option linter.unusedVariables false
set_option linter.unusedSimpArgs false

set_option maxHeartbeats 1000000 in
theorem c_impl_splitName (s : ByteArray) (w : World) (h0 : s.size ≤ 1048576) :
    Calls Try.prog 80 #[.string s] w fun e w' => e = .returned (.tuple #[.string ⟨(preL s.data.toList).toArray⟩, .string ⟨(locL s.data.toList).toArray⟩, .bool (nameL s.data.toList)]) ∧ Below w.heap.size w w' := by
  have hs : s.size ≤ maxLen := by unfold maxLen; omega
  cases h : colonAt s.data.toList with
  | none =>
    have hC : colonI s.data.toList = -1 := by simp [colonI, h]
    have e1 : preL s.data.toList = [] := by simp [preL, h]
    have e2 : locL s.data.toList = s.data.toList := by simp [locL, h]
    have e3 : nameL s.data.toList = lettersL s.data.toList := by simp [nameL, h]
    have C := fun w => c_impl_firstSign s w hs
    rw [e1, e2, e3]
    rw [hC] at C
    clear e1 e2 e3 hC h
    go_enter Try.func80, Try.ntmps80
    go_wp2_with (first | (go_at_call 85; refine (C _).mono ?_; rintro e w' ⟨rfl, rfl⟩) | (go_at_call 87; refine (c_impl_lettersOk _ _ hs).mono ?_; rintro e w' ⟨rfl, rfl⟩))
    go_ret3
    exact ⟨rfl, Below.refl _ _⟩
  | some a =>
    have hC : colonI s.data.toList = a := by simp [colonI, h]
    have e1 : preL s.data.toList = s.data.toList.take a := by simp [preL, h]
    have e2 : locL s.data.toList = s.data.toList.drop (a + 1) := by simp [locL, h]
    have e3 : nameL s.data.toList = (lettersL (preL s.data.toList) && lettersL (locL s.data.toList)) := by simp [nameL, h]
    have ha : a < s.size := colonI_lt _ _ h
    have C := fun w => c_impl_firstSign s w hs
    have c1 := ext_pre s a
    have c2 := ext_loc s (a + 1)
    rw [e3, e1, e2, ← c1, ← c2]
    have z1 : (s.extract 0 a).size ≤ maxLen := by rw [ByteArray.size_extract]; unfold maxLen; omega
    have z2 : (s.extract (a + 1) s.size).size ≤ maxLen := by rw [ByteArray.size_extract]; unfold maxLen; omega
    have L1 : ∀ w, Calls Try.prog 87 #[.string (s.extract 0 a)] w fun e w' => e = .returned (.bool (lettersL (s.data.toList.take a))) ∧ w' = w := fun w => by
      have := c_impl_lettersOk (s.extract 0 a) w z1
      rw [show (s.extract 0 a).data.toList = s.data.toList.take a by rw [c1]] at this
      exact this
    have L2 : ∀ w, Calls Try.prog 87 #[.string (s.extract (a + 1) s.size)] w fun e w' => e = .returned (.bool (lettersL (s.data.toList.drop (a + 1)))) ∧ w' = w := fun w => by
      have := c_impl_lettersOk (s.extract (a + 1) s.size) w z2
      rw [show (s.extract (a + 1) s.size).data.toList = s.data.toList.drop (a + 1) by rw [c2]] at this
      exact this
    have hs1 : ∀ W, (Instr.slice 9 (.string s) none (some (.int .i64 a)) none).run Try.prog W = .ok (.string (s.extract 0 a)) W := fun W => by
      have := run_slice_string_h (P := Try.prog) W 9 s Try.underlying9 .i64 (a : Int) (by omega) (by omega)
      simpa using this
    have hs2 : ∀ W, (Instr.slice 9 (.string s) (some (.int .i64 ((a : Int) + 1))) none none).run Try.prog W = .ok (.string (s.extract (a + 1) s.size)) W := fun W => by
      have := run_slice_string_l (P := Try.prog) W 9 s Try.underlying9 .i64 ((a : Int) + 1) (by omega) (by omega)
      simpa using this
    have hw : IntKind.i64.wrap ((a : Int) + 1) = (a : Int) + 1 := IntWalk.i64_in _ (by omega)
    have hn : ¬ (a : Int) < 0 := by omega
    rw [hC] at C
    clear e1 e2 e3 hC c1 c2 z1 z2 h
    obtain ⟨x, hx⟩ : ∃ x, s.extract 0 a = x := ⟨_, rfl⟩
    obtain ⟨y, hy⟩ : ∃ y, s.extract (a + 1) s.size = y := ⟨_, rfl⟩
    rw [hx] at L1 hs1 ⊢
    rw [hy] at L2 hs2 ⊢
    clear hx hy
    cases hb : lettersL (s.data.toList.take a) with
    | true =>
      rw [hb] at L1
      clear hb
      have H1 : Hid (∀ w, Calls Try.prog 87 #[.string x] w fun e w' => e = .returned (.bool true) ∧ w' = w) := L1
      have H2 : Hid (∀ w, Calls Try.prog 87 #[.string y] w fun e w' => e = .returned (.bool (lettersL (s.data.toList.drop (a + 1)))) ∧ w' = w) := L2
      clear L1 L2
      go_enter Try.func80, Try.ntmps80
      go_wp2_with (go_at_call 85; refine (C _).mono ?_; rintro e w' ⟨rfl, rfl⟩)
      go_quiet (fail)
      clear hs1 hs2 hw
      go_wp2_with fail
      refine (H1.out _).mono ?_
      rintro e w1 ⟨rfl, rfl⟩
      go_wp2_with fail
      refine (H2.out _).mono ?_
      rintro e w1 ⟨rfl, rfl⟩
      go_wp2
      go_ret3
      exact ⟨rfl, ⟨rfl, rfl, rfl, Nat.le_refl _, fun _ _ => rfl⟩⟩
    | false =>
      rw [hb] at L1
      clear hb
      have H1 : Hid (∀ w, Calls Try.prog 87 #[.string x] w fun e w' => e = .returned (.bool false) ∧ w' = w) := L1
      have H2 : Hid (∀ w, Calls Try.prog 87 #[.string y] w fun e w' => e = .returned (.bool (lettersL (s.data.toList.drop (a + 1)))) ∧ w' = w) := L2
      clear L1 L2
      go_enter Try.func80, Try.ntmps80
      go_wp2_with (go_at_call 85; refine (C _).mono ?_; rintro e w' ⟨rfl, rfl⟩)
      go_quiet (fail)
      clear hs1 hs2 hw
      go_wp2_with (go_at_call 87; refine (H1.out _).mono ?_; rintro e w' ⟨rfl, rfl⟩)
      go_ret3
      exact ⟨rfl, ⟨rfl, rfl, rfl, Nat.le_refl _, fun _ _ => rfl⟩⟩

end Go.Proofs.Ytcjeodgfpnecgaa

namespace Go.Proofs.Ytcjeodgfpnecgaa
open Go.RowKit
set_option linter.unusedVariables false
set_option linter.unusedSimpArgs false

theorem info5 : (Try.prog.info? 5).map (fun i => (i.zero, i.size, i.bytes)) = some (some (.int .u8 0), 1, 1) := by kernel_rfl
theorem size5 : (Try.prog.info? 5).map (·.size) = some 1 := by kernel_rfl
theorem cells5 : Try.prog.cellsOf 5 = 1 := by kernel_rfl

theorem empty_of (s : ByteArray) (h : s.size = 0) : s = ⟨#[]⟩ := by
  have : s.data.toList = [] := List.length_eq_zero_iff.1 h
  apply ByteArray.ext
  apply Array.toList_inj.1
  simpa using this

set_option maxHeartbeats 1000000 in
set_option maxRecDepth 4000 in
theorem c_internal_stringslite_Clone (s : ByteArray) (w : World) (h0 : s.size ≤ 1048576) :
    Calls Try.prog 79 #[.string s] w fun e w' => e = .returned (.string s) ∧ Below w.heap.size w w' := by
  by_cases hz : s.size = 0
  · have hs := empty_of s hz
    subst hs
    go_enter Try.func79, Try.ntmps79
    go_wp2
    go_ret
    exact ⟨rfl, Below.refl _ _⟩
  · obtain ⟨i0, hi, hz0, hz1, hz2⟩ := info_parts info5
    have hzi : ¬ (s.size : Int) = 0 := by omega
    go_enter Try.func79, Try.ntmps79
    go_wp2_with (at_make; refine wpList_make_full _ rfl _ _ 41 rfl w.heap.size 5 i0 (.int .u8 0) 1 Try.underlying41 hi hz0 hz1 _ _ _ _ s.size rfl rfl rfl rfl (by rw [hz2]; omega) (by unfold maxLen; omega) (Nat.le_refl _) ?_)
    intro w1 hown hgrow
    obtain ⟨cur, hg, hcs⟩ : ∃ cur, w1.heap[w.heap.size]? = some (.cells cur 5 (0, 0)) ∧ cur.size = s.size := by
      rcases hown.2 with ⟨hv, _⟩ | ⟨g, cap, cur, hv, _, hg, _, _, hc, _⟩
      · cases hv
      · injection hv with e1 e2 e3
        injection e1 with e1
        injection e1 with e1
        subst e1
        exact ⟨cur, hg, by omega⟩
    have hB1 : Below w.heap.size w w1 := (Below.refl _ w).grown hgrow (Nat.le_refl _) (fun k hk => by cases hk)
    have hr := fun ty => Lib.run_copy_row_string (P := Try.prog) w1 41 9 ty 5 w.heap.size 0 s.size s.size s cur 5 Try.underlying41 size5 hg (Nat.le_refl _) (by omega)
    obtain ⟨w2, hw2⟩ : ∃ w2, w1.setRow w.heap.size (cur.toList.take 0 ++ Lib.byteCells s.data.toList ++ cur.toList.drop (0 + s.size)).toArray = w2 := ⟨_, rfl⟩
    have hB2 : Below w.heap.size w w2 := by rw [← hw2]; exact below_setRow hB1 (Nat.le_refl _) _
    have hcur : (cur.toList.take 0 ++ Lib.byteCells s.data.toList ++ cur.toList.drop (0 + s.size)).toArray = (Lib.byteCells s.data.toList).toArray := by
      rw [List.take_zero, List.nil_append, List.drop_of_length_le (by simp; omega), List.append_nil]
    have hh2 : w2.heap[w.heap.size]? = some (.cells (Lib.byteCells s.data.toList).toArray 5 (0, 0)) := by rw [← hw2, hcur]; exact setRow_heap _ _ _ _ _ _ hg
    rw [hw2] at hr
    have hne : s.data.toList ≠ [] := fun e => hz (by rw [sz, e]; rfl)
    have hsh : w2.shape? w.heap.size = some (5, s.size) := by
      have e : (Lib.byteCells s.data.toList).toArray.size = s.size := by rw [List.size_toArray, Lib.byteCells_length]; exact (sz s).symm
      simp [World.shape?, hh2]; rw [Lib.byteCells_length]; exact (sz s).symm
    have hun := fun ty => Lib.run_unsafeString_row (P := Try.prog) w2 89 3 ty 5 Try.underlying89 cells5 w.heap.size s.size hsh s.data.toList hne (by rw [sz s]; exact Nat.le_refl _) (by rw [← sz s]; omega) (fun j x hx => by
      have hplain : (⟨w.heap.size, 0, none⟩ : Addr).add j = ⟨w.heap.size, j, none⟩ := by unfold Addr.add; split <;> simp_all
      rw [hplain, Lib.cell_of_heap hh2]
      simp [Lib.byteCells, hx])
    have hun9 : (Builtin.unsafeString_ #[89, 3] 9 #[.pointer (some ⟨w.heap.size, 0, none⟩), .int .i64 s.size]).run Try.prog w2 = .ok (.string s) (w2.freeze ⟨w.heap.size, 0, none⟩ s.size) := hun 9
    clear hown hgrow hg hcs hw2 hcur hh2 hB1 hun hsh hne
    go_wp2
    go_ret
    exact ⟨rfl, Lib.below_freeze hB2 (p := ⟨w.heap.size, 0, none⟩) (Nat.le_refl _) _⟩

theorem c_strings_Clone (s : ByteArray) (w : World) (h0 : s.size ≤ 1048576) :
    Calls Try.prog 64 #[.string s] w fun e w' => e = .returned (.string s) ∧ Below w.heap.size w w' := by
  go_enter Try.func64, Try.ntmps64
  go_wp2_with (go_at_call 79; refine (c_internal_stringslite_Clone _ _ h0).mono ?_; rintro e w1 ⟨rfl, hb⟩)
  go_ret
  exact ⟨rfl, hb⟩

theorem c_impl_NameOk (s : ByteArray) (w : World) (h0 : s.size ≤ 1048576) :
    Calls Try.prog 69 #[.string s] w fun e w' => e = .returned (.bool (nameL s.data.toList)) ∧ Below w.heap.size w w' := by
  go_enter Try.func69, Try.ntmps69
  go_wp2_with (go_at_call 80; refine (c_impl_splitName _ _ h0).mono ?_; rintro e w1 ⟨rfl, hb⟩)
  go_ret
  exact ⟨rfl, hb⟩

/-- What Parts answers. -/
def partP (l : List UInt8) : List UInt8 := if nameL l then preL l else []
def partL (l : List UInt8) : List UInt8 := if nameL l then locL l else []

theorem len_pre (l : List UInt8) : (preL l).length ≤ l.length := by
  unfold preL; split
  · simp
  · simp; omega
theorem len_loc (l : List UInt8) : (locL l).length ≤ l.length := by
  unfold locL; split
  · simp
  · simp

theorem size_mk (l : List UInt8) : (⟨l.toArray⟩ : ByteArray).size = l.length := by
  have := sz ⟨l.toArray⟩
  rw [this]

end Go.Proofs.Ytcjeodgfpnecgaa
