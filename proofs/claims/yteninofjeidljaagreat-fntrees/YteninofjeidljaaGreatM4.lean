/- Contracts of impl: letters, the first colon, a name split, NameOk. Contracts of strings.Clone, impl.NameOk and impl.Parts. Contracts of spec: letters, a text split at colons. Contracts of spec.NameOk and spec.Parts. -/
import Derived.Test.YteninofjeidljaaGreatRows
import Derived.Test.YteninofjeidljaaGreatM3
import Derived.Test.YteninofjeidljaaGreatM1
import Derived.WalkKit
import Derived.Deep.QuietTactic
import Derived.BigQuiet
import Derived.OwnWalk
import Derived.Lib.BufferWrite
import Derived.Lib.UnsafeStr
import Derived.Laws.CopyOwn
namespace Go.Proofs.YteninofjeidljaaGreat

open Go.RowKit

set_option linter.unusedVariables false

set_option linter.unusedSimpArgs false

set_option maxHeartbeats 1000000 in
theorem c_impl_splitName (s : ByteArray) (w : World) (h0 : s.size ≤ 1048576) :
    Calls Tryz.prog 147 #[.string s] w fun e w' => e = .returned (.tuple #[.string ⟨(preL s.data.toList).toArray⟩, .string ⟨(locL s.data.toList).toArray⟩, .bool (nameL s.data.toList)]) ∧ Below w.heap.size w w' := by
  have hs : s.size ≤ maxLen := by unfold maxLen; omega
  cases h : colonAt s.data.toList with
  | none =>
    have hC : colonI s.data.toList = -1 := by simp [colonI, h]
    have e1 : preL s.data.toList = [] := by simp [preL, h]
    have e2 : locL s.data.toList = s.data.toList := by simp [locL, h]
    have e3 : nameL s.data.toList = lettersL s.data.toList := by simp [nameL, h]
    have C := fun w => c_impl_firstSign s w hs
    rw [e1, e2, e3]
    rw [hC] at C
    clear e1 e2 e3 hC h
    go_enter Tryz.func147, Tryz.ntmps147
    go_wp2_with (first | (go_at_call 169; refine (C _).mono ?_; rintro e w' ⟨rfl, rfl⟩) | (go_at_call 171; refine (c_impl_lettersOk _ _ hs).mono ?_; rintro e w' ⟨rfl, rfl⟩))
    go_ret3
    exact ⟨rfl, Below.refl _ _⟩
  | some a =>
    have hC : colonI s.data.toList = a := by simp [colonI, h]
    have e1 : preL s.data.toList = s.data.toList.take a := by simp [preL, h]
    have e2 : locL s.data.toList = s.data.toList.drop (a + 1) := by simp [locL, h]
    have e3 : nameL s.data.toList = (lettersL (preL s.data.toList) && lettersL (locL s.data.toList)) := by simp [nameL, h]
    have ha : a < s.size := colonI_lt _ _ h
    have C := fun w => c_impl_firstSign s w hs
    have c1 := ext_pre s a
    have c2 := ext_loc s (a + 1)
    rw [e3, e1, e2, ← c1, ← c2]
    have z1 : (s.extract 0 a).size ≤ maxLen := by rw [ByteArray.size_extract]; unfold maxLen; omega
    have z2 : (s.extract (a + 1) s.size).size ≤ maxLen := by rw [ByteArray.size_extract]; unfold maxLen; omega
    have L1 : ∀ w, Calls Tryz.prog 171 #[.string (s.extract 0 a)] w fun e w' => e = .returned (.bool (lettersL (s.data.toList.take a))) ∧ w' = w := fun w => by
      have := c_impl_lettersOk (s.extract 0 a) w z1
      rw [show (s.extract 0 a).data.toList = s.data.toList.take a by rw [c1]] at this
      exact this
    have L2 : ∀ w, Calls Tryz.prog 171 #[.string (s.extract (a + 1) s.size)] w fun e w' => e = .returned (.bool (lettersL (s.data.toList.drop (a + 1)))) ∧ w' = w := fun w => by
      have := c_impl_lettersOk (s.extract (a + 1) s.size) w z2
      rw [show (s.extract (a + 1) s.size).data.toList = s.data.toList.drop (a + 1) by rw [c2]] at this
      exact this
    have hs1 : ∀ W, (Instr.slice 9 (.string s) none (some (.int .i64 a)) none).run Tryz.prog W = .ok (.string (s.extract 0 a)) W := fun W => by
      have := run_slice_string_h (P := Tryz.prog) W 9 s Tryz.underlying9 .i64 (a : Int) (by omega) (by omega)
      simpa using this
    have hs2 : ∀ W, (Instr.slice 9 (.string s) (some (.int .i64 ((a : Int) + 1))) none none).run Tryz.prog W = .ok (.string (s.extract (a + 1) s.size)) W := fun W => by
      have := run_slice_string_l (P := Tryz.prog) W 9 s Tryz.underlying9 .i64 ((a : Int) + 1) (by omega) (by omega)
      simpa using this
    have hw : IntKind.i64.wrap ((a : Int) + 1) = (a : Int) + 1 := IntWalk.i64_in _ (by omega)
    have hn : ¬ (a : Int) < 0 := by omega
    rw [hC] at C
    clear e1 e2 e3 hC c1 c2 z1 z2 h
    obtain ⟨x, hx⟩ : ∃ x, s.extract 0 a = x := ⟨_, rfl⟩
    obtain ⟨y, hy⟩ : ∃ y, s.extract (a + 1) s.size = y := ⟨_, rfl⟩
    rw [hx] at L1 hs1 ⊢
    rw [hy] at L2 hs2 ⊢
    clear hx hy
    cases hb : lettersL (s.data.toList.take a) with
    | true =>
      rw [hb] at L1
      clear hb
      have H1 : Hid (∀ w, Calls Tryz.prog 171 #[.string x] w fun e w' => e = .returned (.bool true) ∧ w' = w) := L1
      have H2 : Hid (∀ w, Calls Tryz.prog 171 #[.string y] w fun e w' => e = .returned (.bool (lettersL (s.data.toList.drop (a + 1)))) ∧ w' = w) := L2
      clear L1 L2
      go_enter Tryz.func147, Tryz.ntmps147
      go_wp2_with (go_at_call 169; refine (C _).mono ?_; rintro e w' ⟨rfl, rfl⟩)
      go_quiet (fail)
      clear hs1 hs2 hw
      go_wp2_with fail
      refine (H1.out _).mono ?_
      rintro e w1 ⟨rfl, rfl⟩
      go_wp2_with fail
      refine (H2.out _).mono ?_
      rintro e w1 ⟨rfl, rfl⟩
      go_wp2
      go_ret3
      exact ⟨rfl, ⟨rfl, rfl, rfl, Nat.le_refl _, fun _ _ => rfl⟩⟩
    | false =>
      rw [hb] at L1
      clear hb
      have H1 : Hid (∀ w, Calls Tryz.prog 171 #[.string x] w fun e w' => e = .returned (.bool false) ∧ w' = w) := L1
      have H2 : Hid (∀ w, Calls Tryz.prog 171 #[.string y] w fun e w' => e = .returned (.bool (lettersL (s.data.toList.drop (a + 1)))) ∧ w' = w) := L2
      clear L1 L2
      go_enter Tryz.func147, Tryz.ntmps147
      go_wp2_with (go_at_call 169; refine (C _).mono ?_; rintro e w' ⟨rfl, rfl⟩)
      go_quiet (fail)
      clear hs1 hs2 hw
      go_wp2_with (go_at_call 171; refine (H1.out _).mono ?_; rintro e w' ⟨rfl, rfl⟩)
      go_ret3
      exact ⟨rfl, ⟨rfl, rfl, rfl, Nat.le_refl _, fun _ _ => rfl⟩⟩

end Go.Proofs.YteninofjeidljaaGreat

namespace Go.Proofs.YteninofjeidljaaGreat

open Go.RowKit

set_option linter.unusedVariables false

set_option linter.unusedSimpArgs false

theorem info5 : (Tryz.prog.info? 5).map (fun i => (i.zero, i.size, i.bytes)) = some (some (.int .u8 0), 1, 1) := by kernel_rfl

theorem size5 : (Tryz.prog.info? 5).map (·.size) = some 1 := by kernel_rfl

theorem cells5 : Tryz.prog.cellsOf 5 = 1 := by kernel_rfl

theorem empty_of (s : ByteArray) (h : s.size = 0) : s = ⟨#[]⟩ := by
  have : s.data.toList = [] := List.length_eq_zero_iff.1 h
  apply ByteArray.ext
  apply Array.toList_inj.1
  simpa using this

set_option maxHeartbeats 1000000 in
set_option maxRecDepth 4000 in
theorem c_internal_stringslite_Clone (s : ByteArray) (w : World) (h0 : s.size ≤ 1048576) :
    Calls Tryz.prog 135 #[.string s] w fun e w' => e = .returned (.string s) ∧ Below w.heap.size w w' := by
  by_cases hz : s.size = 0
  · have hs := empty_of s hz
    subst hs
    go_enter Tryz.func135, Tryz.ntmps135
    go_wp2
    go_ret
    exact ⟨rfl, Below.refl _ _⟩
  · obtain ⟨i0, hi, hz0, hz1, hz2⟩ := info_parts info5
    have hzi : ¬ (s.size : Int) = 0 := by omega
    go_enter Tryz.func135, Tryz.ntmps135
    go_wp2_with (at_make; refine wpList_make_full _ rfl _ _ 22 rfl w.heap.size 5 i0 (.int .u8 0) 1 Tryz.underlying22 hi hz0 hz1 _ _ _ _ s.size rfl rfl rfl rfl (by rw [hz2]; omega) (by unfold maxLen; omega) (Nat.le_refl _) ?_)
    intro w1 hown hgrow
    obtain ⟨cur, hg, hcs⟩ : ∃ cur, w1.heap[w.heap.size]? = some (.cells cur 5 (0, 0)) ∧ cur.size = s.size := by
      rcases hown.2 with ⟨hv, _⟩ | ⟨g, cap, cur, hv, _, hg, _, _, hc, _⟩
      · cases hv
      · injection hv with e1 e2 e3
        injection e1 with e1
        injection e1 with e1
        subst e1
        exact ⟨cur, hg, by omega⟩
    have hB1 : Below w.heap.size w w1 := (Below.refl _ w).grown hgrow (Nat.le_refl _) (fun k hk => by cases hk)
    have hr := fun ty => Lib.run_copy_row_string (P := Tryz.prog) w1 22 9 ty 5 w.heap.size 0 s.size s.size s cur 5 Tryz.underlying22 size5 hg (Nat.le_refl _) (by omega)
    obtain ⟨w2, hw2⟩ : ∃ w2, w1.setRow w.heap.size (cur.toList.take 0 ++ Lib.byteCells s.data.toList ++ cur.toList.drop (0 + s.size)).toArray = w2 := ⟨_, rfl⟩
    have hB2 : Below w.heap.size w w2 := by rw [← hw2]; exact below_setRow hB1 (Nat.le_refl _) _
    have hcur : (cur.toList.take 0 ++ Lib.byteCells s.data.toList ++ cur.toList.drop (0 + s.size)).toArray = (Lib.byteCells s.data.toList).toArray := by
      rw [List.take_zero, List.nil_append, List.drop_of_length_le (by simp; omega), List.append_nil]
    have hh2 : w2.heap[w.heap.size]? = some (.cells (Lib.byteCells s.data.toList).toArray 5 (0, 0)) := by rw [← hw2, hcur]; exact setRow_heap _ _ _ _ _ _ hg
    rw [hw2] at hr
    have hne : s.data.toList ≠ [] := fun e => hz (by rw [sz, e]; rfl)
    have hsh : w2.shape? w.heap.size = some (5, s.size) := by
      have e : (Lib.byteCells s.data.toList).toArray.size = s.size := by rw [List.size_toArray, Lib.byteCells_length]; exact (sz s).symm
      simp [World.shape?, hh2]; rw [Lib.byteCells_length]; exact (sz s).symm
    have hun := fun ty => Lib.run_unsafeString_row (P := Tryz.prog) w2 120 3 ty 5 Tryz.underlying120 cells5 w.heap.size s.size hsh s.data.toList hne (by rw [sz s]; exact Nat.le_refl _) (by rw [← sz s]; omega) (fun j x hx => by
      have hplain : (⟨w.heap.size, 0, none⟩ : Addr).add j = ⟨w.heap.size, j, none⟩ := by unfold Addr.add; split <;> simp_all
      rw [hplain, Lib.cell_of_heap hh2]
      simp [Lib.byteCells, hx])
    have hun9 : (Builtin.unsafeString_ #[120, 3] 9 #[.pointer (some ⟨w.heap.size, 0, none⟩), .int .i64 s.size]).run Tryz.prog w2 = .ok (.string s) (w2.freeze ⟨w.heap.size, 0, none⟩ s.size) := hun 9
    clear hown hgrow hg hcs hw2 hcur hh2 hB1 hun hsh hne
    go_wp2
    go_ret
    exact ⟨rfl, Lib.below_freeze hB2 (p := ⟨w.heap.size, 0, none⟩) (Nat.le_refl _) _⟩

theorem c_strings_Clone (s : ByteArray) (w : World) (h0 : s.size ≤ 1048576) :
    Calls Tryz.prog 89 #[.string s] w fun e w' => e = .returned (.string s) ∧ Below w.heap.size w w' := by
  go_enter Tryz.func89, Tryz.ntmps89
  go_wp2_with (go_at_call 135; refine (c_internal_stringslite_Clone _ _ h0).mono ?_; rintro e w1 ⟨rfl, hb⟩)
  go_ret
  exact ⟨rfl, hb⟩

theorem c_impl_NameOk (s : ByteArray) (w : World) (h0 : s.size ≤ 1048576) :
    Calls Tryz.prog 106 #[.string s] w fun e w' => e = .returned (.bool (nameL s.data.toList)) ∧ Below w.heap.size w w' := by
  go_enter Tryz.func106, Tryz.ntmps106
  go_wp2_with (go_at_call 147; refine (c_impl_splitName _ _ h0).mono ?_; rintro e w1 ⟨rfl, hb⟩)
  go_ret
  exact ⟨rfl, hb⟩

theorem size_mk (l : List UInt8) : (⟨l.toArray⟩ : ByteArray).size = l.length := by
  have := sz ⟨l.toArray⟩
  rw [this]

end Go.Proofs.YteninofjeidljaaGreat

namespace Go.Proofs.YteninofjeidljaaGreat

open Go.RowKit

set_option linter.unusedVariables false

set_option linter.unusedSimpArgs false

theorem c_spec_l1In (x : Int) (w : World) : Calls Tryz.prog 63 #[.int .i64 x, .int .i64 1, .int .i64 10] w fun e w' => e = .returned (.bool (decide (1 ≤ x) && decide (x ≤ 10))) ∧ w' = w := by
  go_enter Tryz.func63, Tryz.ntmps63
  go_wp2
  all_goals go_ret
  all_goals exact ⟨ret_bool (by rw [Bool.eq_iff_iff]; simp; try omega), rfl⟩

theorem lettersL_no {l : List UInt8} (h : allL l = false) : lettersL l = false := by simp [lettersL, h]

theorem lettersL_len (s : ByteArray) (h : allL s.data.toList = true) : lettersL s.data.toList = (decide (1 ≤ (s.size : Int)) && decide ((s.size : Int) ≤ 10)) := by
  have hz := sz s
  rw [lettersL, h, Bool.and_true, Bool.eq_iff_iff]
  simp
  omega

set_option maxHeartbeats 2000000 in
theorem c_spec_l1Letters (s : ByteArray) (w : World) (hs : s.size ≤ maxLen) :
    Calls Tryz.prog 110 #[.string s] w fun e w' => e = .returned (.bool (lettersL s.data.toList)) ∧ w' = w := by
  unfold maxLen at hs
  go_enter Tryz.func110, Tryz.ntmps110
  go_wp2
  go_loop [3] (fun i => ∃ k : Nat, k ≤ s.size ∧ i = .int .i64 k ∧ Hid (allL (s.data.toList.take k) = true)) (fun i => s.size - (intOf i).toNat)
  case atStart => exact ⟨0, Nat.zero_le _, rfl, rfl⟩
  case round =>
    obtain ⟨k, hk, rfl, HP⟩ := hrel
    by_cases hlt : k < s.size
    · have hb : (s[k].toNat : Int) ≤ 255 := by have := s[k].toNat_lt; omega
      have cases : ((97 : Int) ≤ s[k].toNat ∧ (s[k].toNat : Int) ≤ 122) ∨ ((65 : Int) ≤ s[k].toNat ∧ (s[k].toNat : Int) ≤ 90) ∨ (s[k].toNat : Int) < 65 ∨ ((90 : Int) < s[k].toNat ∧ (s[k].toNat : Int) < 97) ∨ (122 : Int) < s[k].toNat := by omega
      rcases cases with ⟨g0, g1⟩ | ⟨g0, g1⟩ | g0 | ⟨g0, g1⟩ | g0
      · have HN : Hid (allL (s.data.toList.take (k + 1)) = true) := by
          show allL _ = true
          rw [take_snoc s k hlt, allL_snoc, HP.out]
          simp [letB]; omega
        go_wp2
        go_round
        case rel => exact ⟨k + 1, by omega, by go_num, HN⟩
        case measure => simp [intOf]; omega
      · have HN : Hid (allL (s.data.toList.take (k + 1)) = true) := by
          show allL _ = true
          rw [take_snoc s k hlt, allL_snoc, HP.out]
          simp [letB]; omega
        go_wp2
        go_round
        case rel => exact ⟨k + 1, by omega, by go_num, HN⟩
        case measure => simp [intOf]; omega
      · have HN : Hid (lettersL s.data.toList = false) := lettersL_no (allL_no s k hlt (by simp [letB]; omega))
        go_wp2
        go_ret
        exact ⟨by rw [HN.out]; rfl, rfl⟩
      · have HN : Hid (lettersL s.data.toList = false) := lettersL_no (allL_no s k hlt (by simp [letB]; omega))
        go_wp2
        go_ret
        exact ⟨by rw [HN.out]; rfl, rfl⟩
      · have HN : Hid (lettersL s.data.toList = false) := lettersL_no (allL_no s k hlt (by simp [letB]; omega))
        go_wp2
        go_ret
        exact ⟨by rw [HN.out]; rfl, rfl⟩
    · have HN : Hid (lettersL s.data.toList = (decide (1 ≤ (s.size : Int)) && decide ((s.size : Int) ≤ 10))) := lettersL_len s (by rw [← take_full s k hlt]; exact HP.out)
      go_wp2_with (go_at_call 63; refine (c_spec_l1In _ _).mono ?_; rintro e w' ⟨rfl, rfl⟩)
      go_ret
      exact ⟨by rw [HN.out]; rfl, rfl⟩

/-- A piece as a value. -/
def strV (p : List UInt8) : Value := .string ⟨p.toArray⟩

def cut (s : ByteArray) (f k : Nat) : List UInt8 := (s.data.toList.drop f).take (k - f)

theorem ext_cut (s : ByteArray) (f k : Nat) : Value.string (s.extract f k) = strV (cut s f k) := by
  have := ByteArray.extract_mk s.data.toList f k
  unfold strV cut
  rw [← this]

/-- What the splitting loop holds. -/
def Splits (s : ByteArray) (k f : Nat) (o : List (List UInt8)) : Prop :=
  o.length ≤ k ∧ f ≤ k ∧ ((k ≤ s.size ∧ o ++ splitA (cut s f k) (s.data.toList.drop k) = splitL s.data.toList) ∨ (k = s.size + 1 ∧ o = splitL s.data.toList))

theorem cut_self (s : ByteArray) (k : Nat) : cut s k k = [] := by simp [cut]

theorem cut_snoc (s : ByteArray) (f k : Nat) (hf : f ≤ k) (hk : k < s.size) : cut s f (k + 1) = cut s f k ++ [s[k]] := by
  unfold cut
  have e : k + 1 - f = (k - f) + 1 := by omega
  have hl : k - f < (s.data.toList.drop f).length := by rw [List.length_drop, ← sz s]; omega
  rw [e, List.take_succ_eq_append_getElem hl]
  congr 2
  rw [List.getElem_drop]
  have : f + (k - f) = k := by omega
  simp only [this]
  rfl

theorem splits_start (s : ByteArray) : Splits s 0 0 [] := by
  refine ⟨Nat.le_refl _, Nat.le_refl _, .inl ⟨Nat.zero_le _, ?_⟩⟩
  rw [cut_self]; rfl

theorem drop_cons (s : ByteArray) (k : Nat) (hk : k < s.size) : s.data.toList.drop k = s[k] :: s.data.toList.drop (k + 1) :=
  List.drop_eq_getElem_cons (by rw [← sz s]; exact hk)

theorem splits_other {s : ByteArray} {k f : Nat} {o : List (List UInt8)} (h : Splits s k f o) (hk : k < s.size) (hc : ¬ s[k].toNat = 58) : Splits s (k + 1) f o := by
  obtain ⟨h1, h2, h3⟩ := h
  refine ⟨by omega, by omega, .inl ⟨by omega, ?_⟩⟩
  rcases h3 with ⟨_, h3⟩ | ⟨h3, _⟩
  · rw [drop_cons s k hk, splitA, if_neg hc, ← cut_snoc s f k h2 hk] at h3
    exact h3
  · omega

theorem splits_colon {s : ByteArray} {k f : Nat} {o : List (List UInt8)} (h : Splits s k f o) (hk : k < s.size) (hc : s[k].toNat = 58) : Splits s (k + 1) (k + 1) (o ++ [cut s f k]) := by
  obtain ⟨h1, h2, h3⟩ := h
  refine ⟨by simp; omega, by omega, .inl ⟨by omega, ?_⟩⟩
  rcases h3 with ⟨_, h3⟩ | ⟨h3, _⟩
  · rw [drop_cons s k hk, splitA, if_pos hc] at h3
    rw [cut_self, List.append_assoc]
    exact h3
  · omega

theorem splits_last {s : ByteArray} {k f : Nat} {o : List (List UInt8)} (h : Splits s k f o) (hk : k = s.size) : Splits s (k + 1) (k + 1) (o ++ [cut s f k]) := by
  obtain ⟨h1, h2, h3⟩ := h
  refine ⟨by simp; omega, by omega, .inr ⟨by omega, ?_⟩⟩
  rcases h3 with ⟨_, h3⟩ | ⟨h3, _⟩
  · rw [List.drop_of_length_le (by rw [← sz s]; omega), splitA] at h3
    exact h3
  · omega

theorem splits_end {s : ByteArray} {k f : Nat} {o : List (List UInt8)} (h : Splits s k f o) (hk : ¬ k ≤ s.size) : o = splitL s.data.toList := by
  obtain ⟨h1, h2, h3⟩ := h
  rcases h3 with ⟨h3, _⟩ | ⟨_, h3⟩
  · omega
  · exact h3

theorem info9 : (Tryz.prog.info? 9).map (fun i => (i.zero, i.size, i.bytes)) = some (some (.string ByteArray.empty), 1, 16) := by kernel_rfl

theorem one_cell (t : TypeId) (w : World) (v : Value) : ∀ j u, [v][j]? = some u → (w.alloc (.cells #[v] t)).cell? ((⟨w.heap.size, 0, none⟩ : Addr).add j) = some u := by
  intro j u hj
  match j, hj with
  | 0, hj => simp at hj; subst hj; simp [Addr.add]

theorem one_str (s : ByteArray) : ∀ u ∈ [Value.string s], u.oneCell' = true := by
  intro u hu; simp at hu; subst hu; rfl

theorem own_more {w1 : World} {B : Nat} {v : Value} {o : List (List UInt8)} {s : ByteArray} {f k : Nat} (h : w1.ownsRow B 9 1 v (o.length + 1) (o.map strV ++ [.string (s.extract f k)])) :
    w1.ownsRow B 9 1 v (o ++ [cut s f k]).length ((o ++ [cut s f k]).map strV) := by
  rw [List.length_append, List.map_append, ← (show [Value.string (s.extract f k)] = [cut s f k].map strV by rw [ext_cut]; rfl)]
  exact h

set_option maxRecDepth 8000 in
set_option maxHeartbeats 4000000 in
theorem c_spec_l1Split (s : ByteArray) (w : World) (h0 : s.size ≤ 1048576) :
    Calls Tryz.prog 109 #[.string s, .int .u8 58] w fun e w' => ∃ v, e = .returned v ∧ w'.ownsRow w.heap.size 9 1 v (splitL s.data.toList).length ((splitL s.data.toList).map strV) ∧ Below w.heap.size w w' := by
  obtain ⟨i0, hi, hz0, hz1, hz2⟩ := info_parts info9
  go_enter Tryz.func109, Tryz.ntmps109
  go_wp2
  go_loopw [5, 6, 7] (fun v fr i wr => ∃ (k f : Nat) (o : List (List UInt8)), i = .int .i64 k ∧ fr = .int .i64 f ∧ k ≤ s.size + 1 ∧ Splits s k f o ∧ wr.ownsRow w.heap.size 9 1 v o.length (o.map strV) ∧ Below w.heap.size w wr) (fun _ _ i _ => s.size + 1 - (intOf i).toNat)
  case atStart => exact ⟨0, 0, [], rfl, rfl, by omega, splits_start s, World.ownsRow_made _ _ _ (Nat.le_refl _) (by decide) rfl, (Below.refl _ _).alloc (Nat.le_refl _) _⟩
  case round =>
    obtain ⟨k, f, o, rfl, rfl, hk, hS, hown, hB⟩ := hrel
    have hsz := hB.size
    have hf : f ≤ k := hS.2.1
    have ho : o.length ≤ k := hS.1
    have HS : Hid (Splits s k f o) := hS
    clear hS
    by_cases hle : k ≤ s.size
    · by_cases hlt : k < s.size
      · by_cases hc : (s[k].toNat : Int) = 58
        · have g0 : (s[k].toNat : Int) ≤ 58 := by omega
          have g1 : (58 : Int) ≤ s[k].toNat := by omega
          have HN : Hid (Splits s (k + 1) (k + 1) (o ++ [cut s f k])) := splits_colon HS.out hlt (by omega)
          have hkb : ((k : Int) == (s.size : Int)) = false := by simp; omega
          have hcb : ((s[k].toNat : Int) == 58) = true := by simp; omega
          clear hc
          go_wp2_with (at_builtin; refine wpList_append_own _ rfl _ _ 112 rfl w.heap.size 9 i0 (.string ByteArray.empty) 1 16 Tryz.underlying112 hi hz0 hz1 hz2 rfl (by decide) _ _ _ rfl (hown.alloc _) ⟨wr.heap.size, 0, none⟩ 1 1 [.string (s.extract f k)] rfl rfl (one_cell _ _ _) (one_str _) (by unfold maxLen; omega) (by omega) (by simp; omega) ?_)
          intro v' w1 hown' hgrow _
          have R := own_more hown'
          have hB1 := (hB.alloc hsz _).grown hgrow (by simp; omega) (fun k hk => (hown.lt k hk).1)
          clear hown' hgrow hown
          go_wp2
          go_roundw
          case rel => exact ⟨k + 1, k + 1, o ++ [cut s f k], by go_num, by go_num, by omega, HN.out, R, hB1⟩
          case measure => simp [intOf]; omega
        · have HN : Hid (Splits s (k + 1) f o) := splits_other HS.out hlt (by omega)
          have hkb : ((k : Int) == (s.size : Int)) = false := by simp; omega
          have hcb : ((s[k].toNat : Int) == 58) = false := by simp; omega
          go_wp2
          go_roundw
          case rel => exact ⟨k + 1, f, o, by go_num, by go_num, by omega, HN.out, hown, hB⟩
          case measure => simp [intOf]; omega
      · have hke : k = s.size := by omega
        have HN : Hid (Splits s (k + 1) (k + 1) (o ++ [cut s f k])) := splits_last HS.out hke
        have hkb : ((k : Int) == (s.size : Int)) = true := by simp; omega
        clear hke
        go_wp2_with (at_builtin; refine wpList_append_own _ rfl _ _ 112 rfl w.heap.size 9 i0 (.string ByteArray.empty) 1 16 Tryz.underlying112 hi hz0 hz1 hz2 rfl (by decide) _ _ _ rfl (hown.alloc _) ⟨wr.heap.size, 0, none⟩ 1 1 [.string (s.extract f k)] rfl rfl (one_cell _ _ _) (one_str _) (by unfold maxLen; omega) (by omega) (by simp; omega) ?_)
        intro v' w1 hown' hgrow _
        have R := own_more hown'
        have hB1 := (hB.alloc hsz _).grown hgrow (by simp; omega) (fun k hk => (hown.lt k hk).1)
        clear hown' hgrow hown
        go_wp2
        go_roundw
        case rel => exact ⟨k + 1, k + 1, o ++ [cut s f k], by go_num, by go_num, by omega, HN.out, R, hB1⟩
        case measure => simp [intOf]; omega
    · have HO : Hid (o = splitL s.data.toList) := splits_end HS.out hle
      go_wp2
      go_ret
      exact ⟨_, rfl, by rw [← HO.out]; exact hown, hB⟩

end Go.Proofs.YteninofjeidljaaGreat

namespace Go.Proofs.YteninofjeidljaaGreat

open Go.RowKit

set_option linter.unusedVariables false

set_option linter.unusedSimpArgs false

theorem pieceA_le (l : List UInt8) : ∀ cur p, p ∈ splitA cur l → p.length ≤ cur.length + l.length := by
  induction l with
  | nil => intro cur p h; simp [splitA] at h; subst h; simp
  | cons c r ih =>
    intro cur p h
    rw [splitA] at h
    split at h
    · rw [List.mem_cons] at h
      rcases h with h | h
      · subst h; simp
      · have := ih _ _ h; simp at this ⊢; omega
    · have := ih _ _ h; simp at this ⊢; omega

theorem piece_le {l p : List UInt8} (h : p ∈ splitL l) : p.length ≤ l.length := by
  have := pieceA_le l [] p h
  simpa using this

theorem own_at {w : World} {B : Nat} {v : Value} {n : Nat} {xs : List Value} (h : w.ownsRow B 9 1 v n xs) (hn : 0 < n) :
    ∃ g cap, v = .slice (some ⟨g, 0, none⟩) n cap ∧ ∀ j u, xs[j]? = some u → w.cell? ⟨g, j, none⟩ = some u := by
  rcases h.2 with ⟨_, h0⟩ | ⟨g, cap, cur, hv, _⟩
  · omega
  · refine ⟨g, cap, hv, fun j u hj => ?_⟩
    have := h.cells (g := g) (by rw [hv]; rfl) j u hj
    have hplain : (⟨g, 0, none⟩ : Addr).add j = ⟨g, j, none⟩ := by unfold Addr.add; split <;> simp_all
    rw [hplain] at this
    exact this

theorem c_spec_l1Letters' (a : List UInt8) (h : a.length ≤ 1048576) (w : World) : Calls Tryz.prog 110 #[strV a] w fun e w' => e = .returned (.bool (lettersL a)) ∧ w' = w :=
  c_spec_l1Letters ⟨a.toArray⟩ w (by rw [size_mk]; unfold maxLen; omega)

theorem split_shape (l : List UInt8) : (∃ a, splitL l = [a]) ∨ (∃ a b, splitL l = [a, b]) ∨ 3 ≤ (splitL l).length := by
  match h : splitL l with
  | [] =>
    exfalso
    cases hx : colonAt l with
    | none => rw [splitL_no hx] at h; simp at h
    | some c => rw [splitL_some hx] at h; simp at h
  | [a] => exact .inl ⟨a, rfl⟩
  | [a, b] => exact .inr (.inl ⟨a, b, rfl⟩)
  | a :: b :: c :: r => exact .inr (.inr (by simp))

theorem piecesOk_long {p : List (List UInt8)} (h : 3 ≤ p.length) : piecesOk p = false := by
  match p, h with
  | a :: b :: c :: r, _ => rfl

set_option maxHeartbeats 4000000 in
theorem c_spec_NameOk (s : ByteArray) (w : World) (h0 : s.size ≤ 1048576) :
    Calls Tryz.prog 64 #[.string s] w fun e w' => e = .returned (.bool (nameL s.data.toList)) ∧ Below w.heap.size w w' := by
  have C := fun w => c_spec_l1Split s w h0
  rw [← pieces_name]
  rcases split_shape s.data.toList with ⟨a, h⟩ | ⟨a, b, h⟩ | h
  · have ha : a.length ≤ 1048576 := by have := piece_le (l := s.data.toList) (p := a) (by rw [h]; simp); rw [← sz s] at this; omega
    rw [h] at C ⊢
    clear h
    have L1 := c_spec_l1Letters' a ha
    cases hb : lettersL a with
    | true =>
      rw [hb] at L1
      have e : piecesOk [a] = true := hb
      rw [e]
      clear hb e
      go_enter Tryz.func64, Tryz.ntmps64
      go_wp2_with (first | (go_at_call 109; refine (C _).mono ?_; rintro e w1 ⟨v, rfl, hown, hbel⟩; obtain ⟨g, cap, rfl, hcells⟩ := own_at hown (by simp); have k0 := hcells 0 (strV a) rfl; clear hcells hown) | (go_at_call 110; refine (L1 _).mono ?_; rintro e w2 ⟨rfl, rfl⟩))
      go_ret
      exact ⟨rfl, hbel⟩
    | false =>
      rw [hb] at L1
      have e : piecesOk [a] = false := hb
      rw [e]
      clear hb e
      go_enter Tryz.func64, Tryz.ntmps64
      go_wp2_with (first | (go_at_call 109; refine (C _).mono ?_; rintro e w1 ⟨v, rfl, hown, hbel⟩; obtain ⟨g, cap, rfl, hcells⟩ := own_at hown (by simp); have k0 := hcells 0 (strV a) rfl; clear hcells hown) | (go_at_call 110; refine (L1 _).mono ?_; rintro e w2 ⟨rfl, rfl⟩))
      go_ret
      exact ⟨rfl, hbel⟩
  · have ha : a.length ≤ 1048576 := by have := piece_le (l := s.data.toList) (p := a) (by rw [h]; simp); rw [← sz s] at this; omega
    have hb : b.length ≤ 1048576 := by have := piece_le (l := s.data.toList) (p := b) (by rw [h]; simp); rw [← sz s] at this; omega
    rw [h] at C ⊢
    clear h
    have L1 := c_spec_l1Letters' a ha
    have L2 := c_spec_l1Letters' b hb
    clear ha hb
    have e : piecesOk [a, b] = (lettersL a && lettersL b) := rfl
    rw [e]
    clear e
    obtain ⟨x, hx⟩ : ∃ x, strV a = x := ⟨_, rfl⟩
    obtain ⟨y, hy⟩ : ∃ y, strV b = y := ⟨_, rfl⟩
    have exy : [a, b].map strV = [x, y] := by rw [← hx, ← hy]; rfl
    rw [exy] at C
    rw [hx] at L1
    rw [hy] at L2
    clear hx hy exy
    cases ba : lettersL a with
    | true =>
      rw [ba] at L1
      rw [Bool.true_and]
      clear ba
      go_enter Tryz.func64, Tryz.ntmps64
      go_wp2_with (go_at_call 109; refine (C _).mono ?_; rintro e w1 ⟨v, rfl, hown, hbel⟩; obtain ⟨g, cap, rfl, hcells⟩ := own_at hown (by simp); have k0 := hcells 0 x rfl; have k1 := hcells 1 y rfl; clear hcells hown)
      refine (L1 _).mono ?_
      rintro e w2 ⟨rfl, rfl⟩
      go_wp2_with fail
      refine (L2 _).mono ?_
      rintro e w2 ⟨rfl, rfl⟩
      go_wp2
      go_ret
      exact ⟨rfl, hbel⟩
    | false =>
      rw [ba] at L1
      rw [Bool.false_and]
      clear ba
      go_enter Tryz.func64, Tryz.ntmps64
      go_wp2_with (go_at_call 109; refine (C _).mono ?_; rintro e w1 ⟨v, rfl, hown, hbel⟩; obtain ⟨g, cap, rfl, hcells⟩ := own_at hown (by simp); have k0 := hcells 0 x rfl; have k1 := hcells 1 y rfl; clear hcells hown)
      refine (L1 _).mono ?_
      rintro e w2 ⟨rfl, rfl⟩
      go_wp2_with fail
      go_ret
      exact ⟨rfl, hbel⟩
  · rw [piecesOk_long h]
    obtain ⟨n, hn⟩ : ∃ n, (splitL s.data.toList).length = n := ⟨_, rfl⟩
    rw [hn] at h C
    clear hn
    have n1 : ((n : Int) == 1) = false := by simp; omega
    have n2 : ((n : Int) == 2) = false := by simp; omega
    go_enter Tryz.func64, Tryz.ntmps64
    go_wp2_with (go_at_call 109; refine (C _).mono ?_; rintro e w1 ⟨v, rfl, hown, hbel⟩; obtain ⟨g, cap, rfl, hcells⟩ := own_at hown (by omega); clear hcells hown)
    go_ret
    exact ⟨rfl, hbel⟩

end Go.Proofs.YteninofjeidljaaGreat
