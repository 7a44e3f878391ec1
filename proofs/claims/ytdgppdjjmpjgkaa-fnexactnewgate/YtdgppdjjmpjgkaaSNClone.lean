/- Contracts of strings.Clone, impl.NameOk and impl.Parts. -/
import Derived.Test.YtdgppdjjmpjgkaaRows
import Derived.Test.YtdgppdjjmpjgkaaSNMath
import Derived.Test.YtdgppdjjmpjgkaaKit
import Derived.Test.YtdgppdjjmpjgkaaSNImpl
import Derived.WalkKit
import Derived.OwnWalk
import Derived.Lib.BufferWrite
import Derived.Lib.UnsafeStr
import Derived.Laws.CopyOwn
namespace Go.Proofs.Ytdgppdjjmpjgkaa
open Go.RowKit
set_option linter.unusedVariables false
set_option linter.unusedSimpArgs false

theorem info5 : (Try.prog.info? 5).map (fun i => (i.zero, i.size, i.bytes)) = some (some (.int .u8 0), 1, 1) := by kernel_rfl
theorem size5 : (Try.prog.info? 5).map (·.size) = some 1 := by kernel_rfl
theorem cells5 : Try.prog.cellsOf 5 = 1 := by kernel_rfl

theorem empty_of (s : ByteArray) (h : s.size = 0) : s = ⟨#[]⟩ := by
  have : s.data.toList = [] := List.length_eq_zero_iff.1 h
  apply ByteArray.ext
  apply Array.toList_inj.1
  simpa using this

set_option maxHeartbeats 1000000 in
set_option maxRecDepth 4000 in
theorem c_internal_stringslite_Clone (s : ByteArray) (w : World) (h0 : s.size ≤ 1048576) :
    Calls Try.prog 77 #[.string s] w fun e w' => e = .returned (.string s) ∧ Below w.heap.size w w' := by
  by_cases hz : s.size = 0
  · have hs := empty_of s hz
    subst hs
    go_enter Try.func77, Try.ntmps77
    go_wp2
    go_ret
    exact ⟨rfl, Below.refl _ _⟩
  · obtain ⟨i0, hi, hz0, hz1, hz2⟩ := info_parts info5
    have hzi : ¬ (s.size : Int) = 0 := by omega
    go_enter Try.func77, Try.ntmps77
    go_wp2_with (at_make; refine wpList_make_full _ rfl _ _ 87 rfl w.heap.size 5 i0 (.int .u8 0) 1 Try.underlying87 hi hz0 hz1 _ _ _ _ s.size rfl rfl rfl rfl (by rw [hz2]; omega) (by unfold maxLen; omega) (Nat.le_refl _) ?_)
    intro w1 hown hgrow
    obtain ⟨cur, hg, hcs⟩ : ∃ cur, w1.heap[w.heap.size]? = some (.cells cur 5 (0, 0)) ∧ cur.size = s.size := by
      rcases hown.2 with ⟨hv, _⟩ | ⟨g, cap, cur, hv, _, hg, _, _, hc, _⟩
      · cases hv
      · injection hv with e1 e2 e3
        injection e1 with e1
        injection e1 with e1
        subst e1
        exact ⟨cur, hg, by omega⟩
    have hB1 : Below w.heap.size w w1 := (Below.refl _ w).grown hgrow (Nat.le_refl _) (fun k hk => by cases hk)
    have hr := fun ty => Lib.run_copy_row_string (P := Try.prog) w1 87 9 ty 5 w.heap.size 0 s.size s.size s cur 5 Try.underlying87 size5 hg (Nat.le_refl _) (by omega)
    obtain ⟨w2, hw2⟩ : ∃ w2, w1.setRow w.heap.size (cur.toList.take 0 ++ Lib.byteCells s.data.toList ++ cur.toList.drop (0 + s.size)).toArray = w2 := ⟨_, rfl⟩
    have hB2 : Below w.heap.size w w2 := by rw [← hw2]; exact below_setRow hB1 (Nat.le_refl _) _
    have hcur : (cur.toList.take 0 ++ Lib.byteCells s.data.toList ++ cur.toList.drop (0 + s.size)).toArray = (Lib.byteCells s.data.toList).toArray := by
      rw [List.take_zero, List.nil_append, List.drop_of_length_le (by simp; omega), List.append_nil]
    have hh2 : w2.heap[w.heap.size]? = some (.cells (Lib.byteCells s.data.toList).toArray 5 (0, 0)) := by rw [← hw2, hcur]; exact setRow_heap _ _ _ _ _ _ hg
    rw [hw2] at hr
    have hne : s.data.toList ≠ [] := fun e => hz (by rw [sz, e]; rfl)
    have hsh : w2.shape? w.heap.size = some (5, s.size) := by
      have e : (Lib.byteCells s.data.toList).toArray.size = s.size := by rw [List.size_toArray, Lib.byteCells_length]; exact (sz s).symm
      simp [World.shape?, hh2]; rw [Lib.byteCells_length]; exact (sz s).symm
    have hun := fun ty => Lib.run_unsafeString_row (P := Try.prog) w2 105 3 ty 5 Try.underlying105 cells5 w.heap.size s.size hsh s.data.toList hne (by rw [sz s]; exact Nat.le_refl _) (by rw [← sz s]; omega) (fun j x hx => by
      have hplain : (⟨w.heap.size, 0, none⟩ : Addr).add j = ⟨w.heap.size, j, none⟩ := by unfold Addr.add; split <;> simp_all
      rw [hplain, Lib.cell_of_heap hh2]
      simp [Lib.byteCells, hx])
    have hun9 : (Builtin.unsafeString_ #[105, 3] 9 #[.pointer (some ⟨w.heap.size, 0, none⟩), .int .i64 s.size]).run Try.prog w2 = .ok (.string s) (w2.freeze ⟨w.heap.size, 0, none⟩ s.size) := hun 9
    clear hown hgrow hg hcs hw2 hcur hh2 hB1 hun hsh hne
    go_wp2
    go_ret
    exact ⟨rfl, Lib.below_freeze hB2 (p := ⟨w.heap.size, 0, none⟩) (Nat.le_refl _) _⟩

theorem c_strings_Clone (s : ByteArray) (w : World) (h0 : s.size ≤ 1048576) :
    Calls Try.prog 71 #[.string s] w fun e w' => e = .returned (.string s) ∧ Below w.heap.size w w' := by
  go_enter Try.func71, Try.ntmps71
  go_wp2_with (go_at_call 77; refine (c_internal_stringslite_Clone _ _ h0).mono ?_; rintro e w1 ⟨rfl, hb⟩)
  go_ret
  exact ⟨rfl, hb⟩

/-- What Parts answers. -/
def partP (l : List UInt8) : List UInt8 := if nameL l then preL l else []
def partL (l : List UInt8) : List UInt8 := if nameL l then locL l else []

theorem len_pre (l : List UInt8) : (preL l).length ≤ l.length := by
  unfold preL; split
  · simp
  · simp; omega
theorem len_loc (l : List UInt8) : (locL l).length ≤ l.length := by
  unfold locL; split
  · simp
  · simp

theorem size_mk (l : List UInt8) : (⟨l.toArray⟩ : ByteArray).size = l.length := by
  have := sz ⟨l.toArray⟩
  rw [this]

end Go.Proofs.Ytdgppdjjmpjgkaa
