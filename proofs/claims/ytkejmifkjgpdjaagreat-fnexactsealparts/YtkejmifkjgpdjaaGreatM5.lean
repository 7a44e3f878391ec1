/- Contracts of impl: letters, the first colon, a name split, NameOk. Contracts of strings.Clone, impl.NameOk and impl.Parts. Contracts of spec.NameOk and spec.Parts. -/
import Derived.Test.YtkejmifkjgpdjaaGreatRows
import Derived.Test.YtkejmifkjgpdjaaGreatM4
import Derived.Test.YtkejmifkjgpdjaaGreatM1
import Derived.WalkKit
import Derived.Deep.QuietTactic
import Derived.BigQuiet
import Derived.OwnWalk
import Derived.Lib.BufferWrite
import Derived.Lib.UnsafeStr
import Derived.Laws.CopyOwn
namespace Go.Proofs.YtkejmifkjgpdjaaGreat
open Go.RowKit
set_option linter.unusedVariables false
set_option linter.unusedSimpArgs false

set_option maxHeartbeats 1000000 in
theorem c_impl_splitName (s : ByteArray) (w : World) (h0 : s.size ≤ 1048576) :
    Calls Tryz.prog 113 #[.string s] w fun e w' => e = .returned (.tuple #[.string ⟨(preL s.data.toList).toArray⟩, .string ⟨(locL s.data.toList).toArray⟩, .bool (nameL s.data.toList)]) ∧ Below w.heap.size w w' := by
  have hs : s.size ≤ maxLen := by unfold maxLen; omega
  cases h : colonAt s.data.toList with
  | none =>
    have hC : colonI s.data.toList = -1 := by simp [colonI, h]
    have e1 : preL s.data.toList = [] := by simp [preL, h]
    have e2 : locL s.data.toList = s.data.toList := by simp [locL, h]
    have e3 : nameL s.data.toList = lettersL s.data.toList := by simp [nameL, h]
    have C := fun w => c_impl_firstSign s w hs
    rw [e1, e2, e3]
    rw [hC] at C
    clear e1 e2 e3 hC h
    go_enter Tryz.func113, Tryz.ntmps113
    go_wp2_with (first | (go_at_call 135; refine (C _).mono ?_; rintro e w' ⟨rfl, rfl⟩) | (go_at_call 137; refine (c_impl_lettersOk _ _ hs).mono ?_; rintro e w' ⟨rfl, rfl⟩))
    go_ret3
    exact ⟨rfl, Below.refl _ _⟩
  | some a =>
    have hC : colonI s.data.toList = a := by simp [colonI, h]
    have e1 : preL s.data.toList = s.data.toList.take a := by simp [preL, h]
    have e2 : locL s.data.toList = s.data.toList.drop (a + 1) := by simp [locL, h]
    have e3 : nameL s.data.toList = (lettersL (preL s.data.toList) && lettersL (locL s.data.toList)) := by simp [nameL, h]
    have ha : a < s.size := colonI_lt _ _ h
    have C := fun w => c_impl_firstSign s w hs
    have c1 := ext_pre s a
    have c2 := ext_loc s (a + 1)
    rw [e3, e1, e2, ← c1, ← c2]
    have z1 : (s.extract 0 a).size ≤ maxLen := by rw [ByteArray.size_extract]; unfold maxLen; omega
    have z2 : (s.extract (a + 1) s.size).size ≤ maxLen := by rw [ByteArray.size_extract]; unfold maxLen; omega
    have L1 : ∀ w, Calls Tryz.prog 137 #[.string (s.extract 0 a)] w fun e w' => e = .returned (.bool (lettersL (s.data.toList.take a))) ∧ w' = w := fun w => by
      have := c_impl_lettersOk (s.extract 0 a) w z1
      rw [show (s.extract 0 a).data.toList = s.data.toList.take a by rw [c1]] at this
      exact this
    have L2 : ∀ w, Calls Tryz.prog 137 #[.string (s.extract (a + 1) s.size)] w fun e w' => e = .returned (.bool (lettersL (s.data.toList.drop (a + 1)))) ∧ w' = w := fun w => by
      have := c_impl_lettersOk (s.extract (a + 1) s.size) w z2
      rw [show (s.extract (a + 1) s.size).data.toList = s.data.toList.drop (a + 1) by rw [c2]] at this
      exact this
    have hs1 : ∀ W, (Instr.slice 9 (.string s) none (some (.int .i64 a)) none).run Tryz.prog W = .ok (.string (s.extract 0 a)) W := fun W => by
      have := run_slice_string_h (P := Tryz.prog) W 9 s Tryz.underlying9 .i64 (a : Int) (by omega) (by omega)
      simpa using this
    have hs2 : ∀ W, (Instr.slice 9 (.string s) (some (.int .i64 ((a : Int) + 1))) none none).run Tryz.prog W = .ok (.string (s.extract (a + 1) s.size)) W := fun W => by
      have := run_slice_string_l (P := Tryz.prog) W 9 s Tryz.underlying9 .i64 ((a : Int) + 1) (by omega) (by omega)
      simpa using this
    have hw : IntKind.i64.wrap ((a : Int) + 1) = (a : Int) + 1 := IntWalk.i64_in _ (by omega)
    have hn : ¬ (a : Int) < 0 := by omega
    rw [hC] at C
    clear e1 e2 e3 hC c1 c2 z1 z2 h
    obtain ⟨x, hx⟩ : ∃ x, s.extract 0 a = x := ⟨_, rfl⟩
    obtain ⟨y, hy⟩ : ∃ y, s.extract (a + 1) s.size = y := ⟨_, rfl⟩
    rw [hx] at L1 hs1 ⊢
    rw [hy] at L2 hs2 ⊢
    clear hx hy
    cases hb : lettersL (s.data.toList.take a) with
    | true =>
      rw [hb] at L1
      clear hb
      have H1 : Hid (∀ w, Calls Tryz.prog 137 #[.string x] w fun e w' => e = .returned (.bool true) ∧ w' = w) := L1
      have H2 : Hid (∀ w, Calls Tryz.prog 137 #[.string y] w fun e w' => e = .returned (.bool (lettersL (s.data.toList.drop (a + 1)))) ∧ w' = w) := L2
      clear L1 L2
      go_enter Tryz.func113, Tryz.ntmps113
      go_wp2_with (go_at_call 135; refine (C _).mono ?_; rintro e w' ⟨rfl, rfl⟩)
      go_quiet (fail)
      clear hs1 hs2 hw
      go_wp2_with fail
      refine (H1.out _).mono ?_
      rintro e w1 ⟨rfl, rfl⟩
      go_wp2_with fail
      refine (H2.out _).mono ?_
      rintro e w1 ⟨rfl, rfl⟩
      go_wp2
      go_ret3
      exact ⟨rfl, ⟨rfl, rfl, rfl, Nat.le_refl _, fun _ _ => rfl⟩⟩
    | false =>
      rw [hb] at L1
      clear hb
      have H1 : Hid (∀ w, Calls Tryz.prog 137 #[.string x] w fun e w' => e = .returned (.bool false) ∧ w' = w) := L1
      have H2 : Hid (∀ w, Calls Tryz.prog 137 #[.string y] w fun e w' => e = .returned (.bool (lettersL (s.data.toList.drop (a + 1)))) ∧ w' = w) := L2
      clear L1 L2
      go_enter Tryz.func113, Tryz.ntmps113
      go_wp2_with (go_at_call 135; refine (C _).mono ?_; rintro e w' ⟨rfl, rfl⟩)
      go_quiet (fail)
      clear hs1 hs2 hw
      go_wp2_with (go_at_call 137; refine (H1.out _).mono ?_; rintro e w' ⟨rfl, rfl⟩)
      go_ret3
      exact ⟨rfl, ⟨rfl, rfl, rfl, Nat.le_refl _, fun _ _ => rfl⟩⟩

end Go.Proofs.YtkejmifkjgpdjaaGreat

namespace Go.Proofs.YtkejmifkjgpdjaaGreat
open Go.RowKit
set_option linter.unusedVariables false
set_option linter.unusedSimpArgs false

theorem info5 : (Tryz.prog.info? 5).map (fun i => (i.zero, i.size, i.bytes)) = some (some (.int .u8 0), 1, 1) := by kernel_rfl
theorem size5 : (Tryz.prog.info? 5).map (·.size) = some 1 := by kernel_rfl
theorem cells5 : Tryz.prog.cellsOf 5 = 1 := by kernel_rfl

theorem empty_of (s : ByteArray) (h : s.size = 0) : s = ⟨#[]⟩ := by
  have : s.data.toList = [] := List.length_eq_zero_iff.1 h
  apply ByteArray.ext
  apply Array.toList_inj.1
  simpa using this

set_option maxHeartbeats 1000000 in
set_option maxRecDepth 4000 in
theorem c_internal_stringslite_Clone (s : ByteArray) (w : World) (h0 : s.size ≤ 1048576) :
    Calls Tryz.prog 117 #[.string s] w fun e w' => e = .returned (.string s) ∧ Below w.heap.size w w' := by
  by_cases hz : s.size = 0
  · have hs := empty_of s hz
    subst hs
    go_enter Tryz.func117, Tryz.ntmps117
    go_wp2
    go_ret
    exact ⟨rfl, Below.refl _ _⟩
  · obtain ⟨i0, hi, hz0, hz1, hz2⟩ := info_parts info5
    have hzi : ¬ (s.size : Int) = 0 := by omega
    go_enter Tryz.func117, Tryz.ntmps117
    go_wp2_with (at_make; refine wpList_make_full _ rfl _ _ 96 rfl w.heap.size 5 i0 (.int .u8 0) 1 Tryz.underlying96 hi hz0 hz1 _ _ _ _ s.size rfl rfl rfl rfl (by rw [hz2]; omega) (by unfold maxLen; omega) (Nat.le_refl _) ?_)
    intro w1 hown hgrow
    obtain ⟨cur, hg, hcs⟩ : ∃ cur, w1.heap[w.heap.size]? = some (.cells cur 5 (0, 0)) ∧ cur.size = s.size := by
      rcases hown.2 with ⟨hv, _⟩ | ⟨g, cap, cur, hv, _, hg, _, _, hc, _⟩
      · cases hv
      · injection hv with e1 e2 e3
        injection e1 with e1
        injection e1 with e1
        subst e1
        exact ⟨cur, hg, by omega⟩
    have hB1 : Below w.heap.size w w1 := (Below.refl _ w).grown hgrow (Nat.le_refl _) (fun k hk => by cases hk)
    have hr := fun ty => Lib.run_copy_row_string (P := Tryz.prog) w1 96 9 ty 5 w.heap.size 0 s.size s.size s cur 5 Tryz.underlying96 size5 hg (Nat.le_refl _) (by omega)
    obtain ⟨w2, hw2⟩ : ∃ w2, w1.setRow w.heap.size (cur.toList.take 0 ++ Lib.byteCells s.data.toList ++ cur.toList.drop (0 + s.size)).toArray = w2 := ⟨_, rfl⟩
    have hB2 : Below w.heap.size w w2 := by rw [← hw2]; exact below_setRow hB1 (Nat.le_refl _) _
    have hcur : (cur.toList.take 0 ++ Lib.byteCells s.data.toList ++ cur.toList.drop (0 + s.size)).toArray = (Lib.byteCells s.data.toList).toArray := by
      rw [List.take_zero, List.nil_append, List.drop_of_length_le (by simp; omega), List.append_nil]
    have hh2 : w2.heap[w.heap.size]? = some (.cells (Lib.byteCells s.data.toList).toArray 5 (0, 0)) := by rw [← hw2, hcur]; exact setRow_heap _ _ _ _ _ _ hg
    rw [hw2] at hr
    have hne : s.data.toList ≠ [] := fun e => hz (by rw [sz, e]; rfl)
    have hsh : w2.shape? w.heap.size = some (5, s.size) := by
      have e : (Lib.byteCells s.data.toList).toArray.size = s.size := by rw [List.size_toArray, Lib.byteCells_length]; exact (sz s).symm
      simp [World.shape?, hh2]; rw [Lib.byteCells_length]; exact (sz s).symm
    have hun := fun ty => Lib.run_unsafeString_row (P := Tryz.prog) w2 166 3 ty 5 Tryz.underlying166 cells5 w.heap.size s.size hsh s.data.toList hne (by rw [sz s]; exact Nat.le_refl _) (by rw [← sz s]; omega) (fun j x hx => by
      have hplain : (⟨w.heap.size, 0, none⟩ : Addr).add j = ⟨w.heap.size, j, none⟩ := by unfold Addr.add; split <;> simp_all
      rw [hplain, Lib.cell_of_heap hh2]
      simp [Lib.byteCells, hx])
    have hun9 : (Builtin.unsafeString_ #[166, 3] 9 #[.pointer (some ⟨w.heap.size, 0, none⟩), .int .i64 s.size]).run Tryz.prog w2 = .ok (.string s) (w2.freeze ⟨w.heap.size, 0, none⟩ s.size) := hun 9
    clear hown hgrow hg hcs hw2 hcur hh2 hB1 hun hsh hne
    go_wp2
    go_ret
    exact ⟨rfl, Lib.below_freeze hB2 (p := ⟨w.heap.size, 0, none⟩) (Nat.le_refl _) _⟩

theorem c_strings_Clone (s : ByteArray) (w : World) (h0 : s.size ≤ 1048576) :
    Calls Tryz.prog 87 #[.string s] w fun e w' => e = .returned (.string s) ∧ Below w.heap.size w w' := by
  go_enter Tryz.func87, Tryz.ntmps87
  go_wp2_with (go_at_call 117; refine (c_internal_stringslite_Clone _ _ h0).mono ?_; rintro e w1 ⟨rfl, hb⟩)
  go_ret
  exact ⟨rfl, hb⟩

theorem c_impl_NameOk (s : ByteArray) (w : World) (h0 : s.size ≤ 1048576) :
    Calls Tryz.prog 107 #[.string s] w fun e w' => e = .returned (.bool (nameL s.data.toList)) ∧ Below w.heap.size w w' := by
  go_enter Tryz.func107, Tryz.ntmps107
  go_wp2_with (go_at_call 113; refine (c_impl_splitName _ _ h0).mono ?_; rintro e w1 ⟨rfl, hb⟩)
  go_ret
  exact ⟨rfl, hb⟩

/-- What Parts answers. -/
def partP (l : List UInt8) : List UInt8 := if nameL l then preL l else []
def partL (l : List UInt8) : List UInt8 := if nameL l then locL l else []

theorem len_pre (l : List UInt8) : (preL l).length ≤ l.length := by
  unfold preL; split
  · simp
  · simp; omega
theorem len_loc (l : List UInt8) : (locL l).length ≤ l.length := by
  unfold locL; split
  · simp
  · simp

theorem size_mk (l : List UInt8) : (⟨l.toArray⟩ : ByteArray).size = l.length := by
  have := sz ⟨l.toArray⟩
  rw [this]

set_option maxHeartbeats 1000000 in
theorem c_impl_Parts (s : ByteArray) (w : World) (h0 : s.size ≤ 1048576) :
    Calls Tryz.prog 84 #[.string s] w fun e w' => e = .returned (.tuple #[.string ⟨(partP s.data.toList).toArray⟩, .string ⟨(partL s.data.toList).toArray⟩]) ∧ Below w.heap.size w w' := by
  have C := fun w => c_impl_splitName s w h0
  cases hn : nameL s.data.toList with
  | false =>
    have e1 : partP s.data.toList = [] := by simp [partP, hn]
    have e2 : partL s.data.toList = [] := by simp [partL, hn]
    rw [e1, e2]
    rw [hn] at C
    clear e1 e2 hn
    go_enter Tryz.func84, Tryz.ntmps84
    go_wp2_with (go_at_call 113; refine (C _).mono ?_; rintro e w1 ⟨rfl, hb⟩)
    go_ret2
    exact ⟨rfl, hb⟩
  | true =>
    have e1 : partP s.data.toList = preL s.data.toList := by simp [partP, hn]
    have e2 : partL s.data.toList = locL s.data.toList := by simp [partL, hn]
    rw [e1, e2]
    rw [hn] at C
    have z1 := len_pre s.data.toList
    have z2 := len_loc s.data.toList
    rw [← sz s] at z1 z2
    have L1 := fun w => c_strings_Clone ⟨(preL s.data.toList).toArray⟩ w (by rw [size_mk]; omega)
    have L2 := fun w => c_strings_Clone ⟨(locL s.data.toList).toArray⟩ w (by rw [size_mk]; omega)
    obtain ⟨x, hx⟩ : ∃ x : ByteArray, (⟨(preL s.data.toList).toArray⟩ : ByteArray) = x := ⟨_, rfl⟩
    obtain ⟨y, hy⟩ : ∃ y : ByteArray, (⟨(locL s.data.toList).toArray⟩ : ByteArray) = y := ⟨_, rfl⟩
    rw [hx, hy] at C
    rw [hx] at L1
    rw [hy] at L2
    rw [hx, hy]
    clear e1 e2 hn hx hy z1 z2
    go_enter Tryz.func84, Tryz.ntmps84
    go_wp2_with (go_at_call 113; refine (C _).mono ?_; rintro e w1 ⟨rfl, hb⟩)
    refine (L1 _).mono ?_
    rintro e w2 ⟨rfl, hb2⟩
    go_wp2_with fail
    refine (L2 _).mono ?_
    rintro e w3 ⟨rfl, hb3⟩
    go_wp2
    go_ret2
    exact ⟨rfl, hb.trans ((hb2.mono hb.size).trans (hb3.mono (Nat.le_trans hb.size hb2.size)))⟩

end Go.Proofs.YtkejmifkjgpdjaaGreat

namespace Go.Proofs.YtkejmifkjgpdjaaGreat
open Go.RowKit
set_option linter.unusedVariables false
set_option linter.unusedSimpArgs false

theorem pieceA_le (l : List UInt8) : ∀ cur p, p ∈ splitA cur l → p.length ≤ cur.length + l.length := by
  induction l with
  | nil => intro cur p h; simp [splitA] at h; subst h; simp
  | cons c r ih =>
    intro cur p h
    rw [splitA] at h
    split at h
    · rw [List.mem_cons] at h
      rcases h with h | h
      · subst h; simp
      · have := ih _ _ h; simp at this ⊢; omega
    · have := ih _ _ h; simp at this ⊢; omega

theorem piece_le {l p : List UInt8} (h : p ∈ splitL l) : p.length ≤ l.length := by
  have := pieceA_le l [] p h
  simpa using this

theorem own_at {w : World} {B : Nat} {v : Value} {n : Nat} {xs : List Value} (h : w.ownsRow B 9 1 v n xs) (hn : 0 < n) :
    ∃ g cap, v = .slice (some ⟨g, 0, none⟩) n cap ∧ ∀ j u, xs[j]? = some u → w.cell? ⟨g, j, none⟩ = some u := by
  rcases h.2 with ⟨_, h0⟩ | ⟨g, cap, cur, hv, _⟩
  · omega
  · refine ⟨g, cap, hv, fun j u hj => ?_⟩
    have := h.cells (g := g) (by rw [hv]; rfl) j u hj
    have hplain : (⟨g, 0, none⟩ : Addr).add j = ⟨g, j, none⟩ := by unfold Addr.add; split <;> simp_all
    rw [hplain] at this
    exact this

theorem c_spec_l1Letters' (a : List UInt8) (h : a.length ≤ 1048576) (w : World) : Calls Tryz.prog 103 #[strV a] w fun e w' => e = .returned (.bool (lettersL a)) ∧ w' = w :=
  c_spec_l1Letters ⟨a.toArray⟩ w (by rw [size_mk]; unfold maxLen; omega)

theorem split_shape (l : List UInt8) : (∃ a, splitL l = [a]) ∨ (∃ a b, splitL l = [a, b]) ∨ 3 ≤ (splitL l).length := by
  match h : splitL l with
  | [] =>
    exfalso
    cases hx : colonAt l with
    | none => rw [splitL_no hx] at h; simp at h
    | some c => rw [splitL_some hx] at h; simp at h
  | [a] => exact .inl ⟨a, rfl⟩
  | [a, b] => exact .inr (.inl ⟨a, b, rfl⟩)
  | a :: b :: c :: r => exact .inr (.inr (by simp))

theorem piecesOk_long {p : List (List UInt8)} (h : 3 ≤ p.length) : piecesOk p = false := by
  match p, h with
  | a :: b :: c :: r, _ => rfl

set_option maxHeartbeats 4000000 in
theorem c_spec_NameOk (s : ByteArray) (w : World) (h0 : s.size ≤ 1048576) :
    Calls Tryz.prog 65 #[.string s] w fun e w' => e = .returned (.bool (nameL s.data.toList)) ∧ Below w.heap.size w w' := by
  have C := fun w => c_spec_l1Split s w h0
  rw [← pieces_name]
  rcases split_shape s.data.toList with ⟨a, h⟩ | ⟨a, b, h⟩ | h
  · have ha : a.length ≤ 1048576 := by have := piece_le (l := s.data.toList) (p := a) (by rw [h]; simp); rw [← sz s] at this; omega
    rw [h] at C ⊢
    clear h
    have L1 := c_spec_l1Letters' a ha
    cases hb : lettersL a with
    | true =>
      rw [hb] at L1
      have e : piecesOk [a] = true := hb
      rw [e]
      clear hb e
      go_enter Tryz.func65, Tryz.ntmps65
      go_wp2_with (first | (go_at_call 69; refine (C _).mono ?_; rintro e w1 ⟨v, rfl, hown, hbel⟩; obtain ⟨g, cap, rfl, hcells⟩ := own_at hown (by simp); have k0 := hcells 0 (strV a) rfl; clear hcells hown) | (go_at_call 103; refine (L1 _).mono ?_; rintro e w2 ⟨rfl, rfl⟩))
      go_ret
      exact ⟨rfl, hbel⟩
    | false =>
      rw [hb] at L1
      have e : piecesOk [a] = false := hb
      rw [e]
      clear hb e
      go_enter Tryz.func65, Tryz.ntmps65
      go_wp2_with (first | (go_at_call 69; refine (C _).mono ?_; rintro e w1 ⟨v, rfl, hown, hbel⟩; obtain ⟨g, cap, rfl, hcells⟩ := own_at hown (by simp); have k0 := hcells 0 (strV a) rfl; clear hcells hown) | (go_at_call 103; refine (L1 _).mono ?_; rintro e w2 ⟨rfl, rfl⟩))
      go_ret
      exact ⟨rfl, hbel⟩
  · have ha : a.length ≤ 1048576 := by have := piece_le (l := s.data.toList) (p := a) (by rw [h]; simp); rw [← sz s] at this; omega
    have hb : b.length ≤ 1048576 := by have := piece_le (l := s.data.toList) (p := b) (by rw [h]; simp); rw [← sz s] at this; omega
    rw [h] at C ⊢
    clear h
    have L1 := c_spec_l1Letters' a ha
    have L2 := c_spec_l1Letters' b hb
    clear ha hb
    have e : piecesOk [a, b] = (lettersL a && lettersL b) := rfl
    rw [e]
    clear e
    obtain ⟨x, hx⟩ : ∃ x, strV a = x := ⟨_, rfl⟩
    obtain ⟨y, hy⟩ : ∃ y, strV b = y := ⟨_, rfl⟩
    have exy : [a, b].map strV = [x, y] := by rw [← hx, ← hy]; rfl
    rw [exy] at C
    rw [hx] at L1
    rw [hy] at L2
    clear hx hy exy
    cases ba : lettersL a with
    | true =>
      rw [ba] at L1
      rw [Bool.true_and]
      clear ba
      go_enter Tryz.func65, Tryz.ntmps65
      go_wp2_with (go_at_call 69; refine (C _).mono ?_; rintro e w1 ⟨v, rfl, hown, hbel⟩; obtain ⟨g, cap, rfl, hcells⟩ := own_at hown (by simp); have k0 := hcells 0 x rfl; have k1 := hcells 1 y rfl; clear hcells hown)
      refine (L1 _).mono ?_
      rintro e w2 ⟨rfl, rfl⟩
      go_wp2_with fail
      refine (L2 _).mono ?_
      rintro e w2 ⟨rfl, rfl⟩
      go_wp2
      go_ret
      exact ⟨rfl, hbel⟩
    | false =>
      rw [ba] at L1
      rw [Bool.false_and]
      clear ba
      go_enter Tryz.func65, Tryz.ntmps65
      go_wp2_with (go_at_call 69; refine (C _).mono ?_; rintro e w1 ⟨v, rfl, hown, hbel⟩; obtain ⟨g, cap, rfl, hcells⟩ := own_at hown (by simp); have k0 := hcells 0 x rfl; have k1 := hcells 1 y rfl; clear hcells hown)
      refine (L1 _).mono ?_
      rintro e w2 ⟨rfl, rfl⟩
      go_wp2_with fail
      go_ret
      exact ⟨rfl, hbel⟩
  · rw [piecesOk_long h]
    obtain ⟨n, hn⟩ : ∃ n, (splitL s.data.toList).length = n := ⟨_, rfl⟩
    rw [hn] at h C
    clear hn
    have n1 : ((n : Int) == 1) = false := by simp; omega
    have n2 : ((n : Int) == 2) = false := by simp; omega
    go_enter Tryz.func65, Tryz.ntmps65
    go_wp2_with (go_at_call 69; refine (C _).mono ?_; rintro e w1 ⟨v, rfl, hown, hbel⟩; obtain ⟨g, cap, rfl, hcells⟩ := own_at hown (by omega); clear hcells hown)
    go_ret
    exact ⟨rfl, hbel⟩

theorem drewN_below {B : Nat} {w w1 : World} (h : Below B w w1) (n : Nat) : Below B w (w1.drewN n) := ⟨h.os, h.tape, h.output, h.size, h.block⟩

/-- Which pieces a good name has. -/
theorem good_shape {l : List UInt8} (h : nameL l = true) : (∃ a, splitL l = [a] ∧ partP l = [] ∧ partL l = a) ∨ ∃ a b, splitL l = [a, b] ∧ partP l = a ∧ partL l = b := by
  cases hc : colonAt l with
  | none => exact .inl ⟨l, splitL_no hc, by simp [partP, h, preL, hc], by simp [partL, h, locL, hc]⟩
  | some a =>
    cases h2 : colonAt (l.drop (a + 1)) with
    | none => exact .inr ⟨l.take a, l.drop (a + 1), by rw [splitL_some hc, splitL_no h2], by simp [partP, h, preL, hc], by simp [partL, h, locL, hc]⟩
    | some b =>
      exfalso
      have hn : lettersL (l.drop (a + 1)) = false := colon_letters h2
      simp [nameL, hc, locL, hn] at h

set_option maxHeartbeats 4000000 in
theorem c_spec_Parts (s : ByteArray) (w : World) (h0 : s.size ≤ 1048576) :
    Calls Tryz.prog 32 #[.string s] w fun e w' => e = .returned (.tuple #[.string ⟨(partP s.data.toList).toArray⟩, .string ⟨(partL s.data.toList).toArray⟩]) ∧ Below w.heap.size w w' := by
  have C := fun w => c_spec_l1Split s w h0
  have K := fun w => c_spec_NameOk s w h0
  cases hn : nameL s.data.toList with
  | false =>
    have e1 : partP s.data.toList = [] := by simp [partP, hn]
    have e2 : partL s.data.toList = [] := by simp [partL, hn]
    rw [e1, e2]
    rw [hn] at K
    clear e1 e2 hn
    go_enter Tryz.func32, Tryz.ntmps32
    go_wp2_with (go_at_call 65; refine (K _).mono ?_; rintro e w1 ⟨rfl, hb⟩)
    go_ret2
    exact ⟨rfl, hb⟩
  | true =>
    rw [hn] at K
    rcases good_shape hn with ⟨a, h, e1, e2⟩ | ⟨a, b, h, e1, e2⟩
    · rw [e1, e2]
      rw [h] at C
      clear hn h e1 e2
      go_enter Tryz.func32, Tryz.ntmps32
      go_wp2_with (first | (go_at_call 65; refine (K _).mono ?_; rintro e w1 ⟨rfl, hb⟩) | (go_at_call 69; refine (C _).mono ?_; rintro e w2 ⟨v, rfl, hown, hb2⟩; obtain ⟨g, cap, rfl, hcells⟩ := own_at hown (by simp); have k0 := hcells 0 (strV a) rfl; clear hcells hown))
      go_quiet (fail)
      go_wp2
      go_ret2
      exact ⟨rfl, drewN_below (hb.trans (hb2.mono hb.size)) _⟩
    · rw [e1, e2]
      rw [h] at C
      clear hn h e1 e2
      go_enter Tryz.func32, Tryz.ntmps32
      go_wp2_with (first | (go_at_call 65; refine (K _).mono ?_; rintro e w1 ⟨rfl, hb⟩) | (go_at_call 69; refine (C _).mono ?_; rintro e w2 ⟨v, rfl, hown, hb2⟩; obtain ⟨g, cap, rfl, hcells⟩ := own_at hown (by simp); have k0 := hcells 0 (strV a) rfl; have k1 := hcells 1 (strV b) rfl; clear hcells hown))
      go_quiet (fail)
      go_wp2
      go_ret2
      exact ⟨rfl, drewN_below (hb.trans (hb2.mono hb.size)) _⟩

end Go.Proofs.YtkejmifkjgpdjaaGreat
