/- Contracts of spec: letters, a text split at colons. -/
import Derived.Test.YtlghhemmmjahnaaRows
import Derived.Test.YtlghhemmmjahnaaSNMath
import Derived.Test.YtlghhemmmjahnaaKit
import Derived.Test.YtlghhemmmjahnaaSNImplA
import Derived.WalkKit
import Derived.OwnWalk
namespace Go.Proofs.Ytlghhemmmjahnaa
open Go.RowKit
set_option linter.unusedVariables false
set_option linter.unusedSimpArgs false

theorem c_spec_l1In (x : Int) (w : World) : Calls Try.prog 64 #[.int .i64 x, .int .i64 1, .int .i64 10] w fun e w' => e = .returned (.bool (decide (1 ≤ x) && decide (x ≤ 10))) ∧ w' = w := by
  go_enter Try.func64, Try.ntmps64
  go_wp2
  all_goals go_ret
  all_goals exact ⟨ret_bool (by rw [Bool.eq_iff_iff]; simp; try omega), rfl⟩

theorem lettersL_no {l : List UInt8} (h : allL l = false) : lettersL l = false := by simp [lettersL, h]

theorem lettersL_len (s : ByteArray) (h : allL s.data.toList = true) : lettersL s.data.toList = (decide (1 ≤ (s.size : Int)) && decide ((s.size : Int) ≤ 10)) := by
  have hz := sz s
  rw [lettersL, h, Bool.and_true, Bool.eq_iff_iff]
  simp
  omega

set_option maxHeartbeats 2000000 in
theorem c_spec_l1Letters (s : ByteArray) (w : World) (hs : s.size ≤ maxLen) :
    Calls Try.prog 75 #[.string s] w fun e w' => e = .returned (.bool (lettersL s.data.toList)) ∧ w' = w := by
  unfold maxLen at hs
  go_enter Try.func75, Try.ntmps75
  go_wp2
  go_loop [3] (fun i => ∃ k : Nat, k ≤ s.size ∧ i = .int .i64 k ∧ Hid (allL (s.data.toList.take k) = true)) (fun i => s.size - (intOf i).toNat)
  case atStart => exact ⟨0, Nat.zero_le _, rfl, rfl⟩
  case round =>
    obtain ⟨k, hk, rfl, HP⟩ := hrel
    by_cases hlt : k < s.size
    · have hb : (s[k].toNat : Int) ≤ 255 := by have := s[k].toNat_lt; omega
      have cases : ((97 : Int) ≤ s[k].toNat ∧ (s[k].toNat : Int) ≤ 122) ∨ ((65 : Int) ≤ s[k].toNat ∧ (s[k].toNat : Int) ≤ 90) ∨ (s[k].toNat : Int) < 65 ∨ ((90 : Int) < s[k].toNat ∧ (s[k].toNat : Int) < 97) ∨ (122 : Int) < s[k].toNat := by omega
      rcases cases with ⟨g0, g1⟩ | ⟨g0, g1⟩ | g0 | ⟨g0, g1⟩ | g0
      · have HN : Hid (allL (s.data.toList.take (k + 1)) = true) := by
          show allL _ = true
          rw [take_snoc s k hlt, allL_snoc, HP.out]
          simp [letB]; omega
        go_wp2
        go_round
        case rel => exact ⟨k + 1, by omega, by go_num, HN⟩
        case measure => simp [intOf]; omega
      · have HN : Hid (allL (s.data.toList.take (k + 1)) = true) := by
          show allL _ = true
          rw [take_snoc s k hlt, allL_snoc, HP.out]
          simp [letB]; omega
        go_wp2
        go_round
        case rel => exact ⟨k + 1, by omega, by go_num, HN⟩
        case measure => simp [intOf]; omega
      · have HN : Hid (lettersL s.data.toList = false) := lettersL_no (allL_no s k hlt (by simp [letB]; omega))
        go_wp2
        go_ret
        exact ⟨by rw [HN.out]; rfl, rfl⟩
      · have HN : Hid (lettersL s.data.toList = false) := lettersL_no (allL_no s k hlt (by simp [letB]; omega))
        go_wp2
        go_ret
        exact ⟨by rw [HN.out]; rfl, rfl⟩
      · have HN : Hid (lettersL s.data.toList = false) := lettersL_no (allL_no s k hlt (by simp [letB]; omega))
        go_wp2
        go_ret
        exact ⟨by rw [HN.out]; rfl, rfl⟩
    · have HN : Hid (lettersL s.data.toList = (decide (1 ≤ (s.size : Int)) && decide ((s.size : Int) ≤ 10))) := lettersL_len s (by rw [← take_full s k hlt]; exact HP.out)
      go_wp2_with (go_at_call 64; refine (c_spec_l1In _ _).mono ?_; rintro e w' ⟨rfl, rfl⟩)
      go_ret
      exact ⟨by rw [HN.out]; rfl, rfl⟩

/-- A piece as a value. -/
def strV (p : List UInt8) : Value := .string ⟨p.toArray⟩

def cut (s : ByteArray) (f k : Nat) : List UInt8 := (s.data.toList.drop f).take (k - f)

theorem ext_cut (s : ByteArray) (f k : Nat) : Value.string (s.extract f k) = strV (cut s f k) := by
  have := ByteArray.extract_mk s.data.toList f k
  unfold strV cut
  rw [← this]

/-- What the splitting loop holds. -/
def Splits (s : ByteArray) (k f : Nat) (o : List (List UInt8)) : Prop :=
  o.length ≤ k ∧ f ≤ k ∧ ((k ≤ s.size ∧ o ++ splitA (cut s f k) (s.data.toList.drop k) = splitL s.data.toList) ∨ (k = s.size + 1 ∧ o = splitL s.data.toList))

theorem cut_self (s : ByteArray) (k : Nat) : cut s k k = [] := by simp [cut]

theorem cut_snoc (s : ByteArray) (f k : Nat) (hf : f ≤ k) (hk : k < s.size) : cut s f (k + 1) = cut s f k ++ [s[k]] := by
  unfold cut
  have e : k + 1 - f = (k - f) + 1 := by omega
  have hl : k - f < (s.data.toList.drop f).length := by rw [List.length_drop, ← sz s]; omega
  rw [e, List.take_succ_eq_append_getElem hl]
  congr 2
  rw [List.getElem_drop]
  have : f + (k - f) = k := by omega
  simp only [this]
  rfl

theorem splits_start (s : ByteArray) : Splits s 0 0 [] := by
  refine ⟨Nat.le_refl _, Nat.le_refl _, .inl ⟨Nat.zero_le _, ?_⟩⟩
  rw [cut_self]; rfl

theorem drop_cons (s : ByteArray) (k : Nat) (hk : k < s.size) : s.data.toList.drop k = s[k] :: s.data.toList.drop (k + 1) :=
  List.drop_eq_getElem_cons (by rw [← sz s]; exact hk)

theorem splits_other {s : ByteArray} {k f : Nat} {o : List (List UInt8)} (h : Splits s k f o) (hk : k < s.size) (hc : ¬ s[k].toNat = 58) : Splits s (k + 1) f o := by
  obtain ⟨h1, h2, h3⟩ := h
  refine ⟨by omega, by omega, .inl ⟨by omega, ?_⟩⟩
  rcases h3 with ⟨_, h3⟩ | ⟨h3, _⟩
  · rw [drop_cons s k hk, splitA, if_neg hc, ← cut_snoc s f k h2 hk] at h3
    exact h3
  · omega

theorem splits_colon {s : ByteArray} {k f : Nat} {o : List (List UInt8)} (h : Splits s k f o) (hk : k < s.size) (hc : s[k].toNat = 58) : Splits s (k + 1) (k + 1) (o ++ [cut s f k]) := by
  obtain ⟨h1, h2, h3⟩ := h
  refine ⟨by simp; omega, by omega, .inl ⟨by omega, ?_⟩⟩
  rcases h3 with ⟨_, h3⟩ | ⟨h3, _⟩
  · rw [drop_cons s k hk, splitA, if_pos hc] at h3
    rw [cut_self, List.append_assoc]
    exact h3
  · omega

theorem splits_last {s : ByteArray} {k f : Nat} {o : List (List UInt8)} (h : Splits s k f o) (hk : k = s.size) : Splits s (k + 1) (k + 1) (o ++ [cut s f k]) := by
  obtain ⟨h1, h2, h3⟩ := h
  refine ⟨by simp; omega, by omega, .inr ⟨by omega, ?_⟩⟩
  rcases h3 with ⟨_, h3⟩ | ⟨h3, _⟩
  · rw [List.drop_of_length_le (by rw [← sz s]; omega), splitA] at h3
    exact h3
  · omega

theorem splits_end {s : ByteArray} {k f : Nat} {o : List (List UInt8)} (h : Splits s k f o) (hk : ¬ k ≤ s.size) : o = splitL s.data.toList := by
  obtain ⟨h1, h2, h3⟩ := h
  rcases h3 with ⟨h3, _⟩ | ⟨_, h3⟩
  · omega
  · exact h3

theorem info9 : (Try.prog.info? 9).map (fun i => (i.zero, i.size, i.bytes)) = some (some (.string ByteArray.empty), 1, 16) := by kernel_rfl

theorem one_cell (t : TypeId) (w : World) (v : Value) : ∀ j u, [v][j]? = some u → (w.alloc (.cells #[v] t)).cell? ((⟨w.heap.size, 0, none⟩ : Addr).add j) = some u := by
  intro j u hj
  match j, hj with
  | 0, hj => simp at hj; subst hj; simp [Addr.add]

theorem one_str (s : ByteArray) : ∀ u ∈ [Value.string s], u.oneCell' = true := by
  intro u hu; simp at hu; subst hu; rfl

theorem own_more {w1 : World} {B : Nat} {v : Value} {o : List (List UInt8)} {s : ByteArray} {f k : Nat} (h : w1.ownsRow B 9 1 v (o.length + 1) (o.map strV ++ [.string (s.extract f k)])) :
    w1.ownsRow B 9 1 v (o ++ [cut s f k]).length ((o ++ [cut s f k]).map strV) := by
  rw [List.length_append, List.map_append, ← (show [Value.string (s.extract f k)] = [cut s f k].map strV by rw [ext_cut]; rfl)]
  exact h

set_option maxRecDepth 8000 in
set_option maxHeartbeats 4000000 in
theorem c_spec_l1Split (s : ByteArray) (w : World) (h0 : s.size ≤ 1048576) :
    Calls Try.prog 52 #[.string s, .int .u8 58] w fun e w' => ∃ v, e = .returned v ∧ w'.ownsRow w.heap.size 9 1 v (splitL s.data.toList).length ((splitL s.data.toList).map strV) ∧ Below w.heap.size w w' := by
  obtain ⟨i0, hi, hz0, hz1, hz2⟩ := info_parts info9
  go_enter Try.func52, Try.ntmps52
  go_wp2
  go_loopw [5, 6, 7] (fun v fr i wr => ∃ (k f : Nat) (o : List (List UInt8)), i = .int .i64 k ∧ fr = .int .i64 f ∧ k ≤ s.size + 1 ∧ Splits s k f o ∧ wr.ownsRow w.heap.size 9 1 v o.length (o.map strV) ∧ Below w.heap.size w wr) (fun _ _ i _ => s.size + 1 - (intOf i).toNat)
  case atStart => exact ⟨0, 0, [], rfl, rfl, by omega, splits_start s, World.ownsRow_made _ _ _ (Nat.le_refl _) (by decide) rfl, (Below.refl _ _).alloc (Nat.le_refl _) _⟩
  case round =>
    obtain ⟨k, f, o, rfl, rfl, hk, hS, hown, hB⟩ := hrel
    have hsz := hB.size
    have hf : f ≤ k := hS.2.1
    have ho : o.length ≤ k := hS.1
    have HS : Hid (Splits s k f o) := hS
    clear hS
    by_cases hle : k ≤ s.size
    · by_cases hlt : k < s.size
      · by_cases hc : (s[k].toNat : Int) = 58
        · have g0 : (s[k].toNat : Int) ≤ 58 := by omega
          have g1 : (58 : Int) ≤ s[k].toNat := by omega
          have HN : Hid (Splits s (k + 1) (k + 1) (o ++ [cut s f k])) := splits_colon HS.out hlt (by omega)
          have hkb : ((k : Int) == (s.size : Int)) = false := by simp; omega
          have hcb : ((s[k].toNat : Int) == 58) = true := by simp; omega
          clear hc
          go_wp2_with (at_builtin; refine wpList_append_own _ rfl _ _ 50 rfl w.heap.size 9 i0 (.string ByteArray.empty) 1 16 Try.underlying50 hi hz0 hz1 hz2 rfl (by decide) _ _ _ rfl (hown.alloc _) ⟨wr.heap.size, 0, none⟩ 1 1 [.string (s.extract f k)] rfl rfl (one_cell _ _ _) (one_str _) (by unfold maxLen; omega) (by omega) (by simp; omega) ?_)
          intro v' w1 hown' hgrow _
          have R := own_more hown'
          have hB1 := (hB.alloc hsz _).grown hgrow (by simp; omega) (fun k hk => (hown.lt k hk).1)
          clear hown' hgrow hown
          go_wp2
          go_roundw
          case rel => exact ⟨k + 1, k + 1, o ++ [cut s f k], by go_num, by go_num, by omega, HN.out, R, hB1⟩
          case measure => simp [intOf]; omega
        · have HN : Hid (Splits s (k + 1) f o) := splits_other HS.out hlt (by omega)
          have hkb : ((k : Int) == (s.size : Int)) = false := by simp; omega
          have hcb : ((s[k].toNat : Int) == 58) = false := by simp; omega
          go_wp2
          go_roundw
          case rel => exact ⟨k + 1, f, o, by go_num, by go_num, by omega, HN.out, hown, hB⟩
          case measure => simp [intOf]; omega
      · have hke : k = s.size := by omega
        have HN : Hid (Splits s (k + 1) (k + 1) (o ++ [cut s f k])) := splits_last HS.out hke
        have hkb : ((k : Int) == (s.size : Int)) = true := by simp; omega
        clear hke
        go_wp2_with (at_builtin; refine wpList_append_own _ rfl _ _ 50 rfl w.heap.size 9 i0 (.string ByteArray.empty) 1 16 Try.underlying50 hi hz0 hz1 hz2 rfl (by decide) _ _ _ rfl (hown.alloc _) ⟨wr.heap.size, 0, none⟩ 1 1 [.string (s.extract f k)] rfl rfl (one_cell _ _ _) (one_str _) (by unfold maxLen; omega) (by omega) (by simp; omega) ?_)
        intro v' w1 hown' hgrow _
        have R := own_more hown'
        have hB1 := (hB.alloc hsz _).grown hgrow (by simp; omega) (fun k hk => (hown.lt k hk).1)
        clear hown' hgrow hown
        go_wp2
        go_roundw
        case rel => exact ⟨k + 1, k + 1, o ++ [cut s f k], by go_num, by go_num, by omega, HN.out, R, hB1⟩
        case measure => simp [intOf]; omega
    · have HO : Hid (o = splitL s.data.toList) := splits_end HS.out hle
      go_wp2
      go_ret
      exact ⟨_, rfl, by rw [← HO.out]; exact hown, hB⟩

end Go.Proofs.Ytlghhemmmjahnaa
