/- Contracts of what TimeOf calls: digits read, days ahead of a month. -/
import Derived.Test.YtbphbjkmgmgpkaaDoorTOfMath
import Derived.Test.YtbphbjkmgmgpkaaDoorTDate
namespace Go.Proofs.YtbphbjkmgmgpkaaDoor
open Go.RowKit
set_option linter.unusedVariables false
set_option linter.unusedSimpArgs false

theorem cDigit (c : UInt8) (w : World) :
    Calls Tryd.prog 47 #[.int .u8 c.toNat] w fun e w' => e = .returned (.bool (isDig c)) ∧ w' = w := by
  by_cases h1 : 48 ≤ c.toNat
  · by_cases h2 : c.toNat ≤ 57
    · have e : isDig c = true := by unfold isDig; simp [h1, h2]
      rw [e]
      generalize c.toNat = n at *
      go_enter Tryd.func47, Tryd.ntmps47
      go_wp2
      go_ret
      exact ⟨by first | rfl | (congr 2; simp; omega), rfl⟩
    · have e : isDig c = false := by unfold isDig; simp [h2]
      rw [e]
      generalize c.toNat = n at *
      go_enter Tryd.func47, Tryd.ntmps47
      go_wp2
      go_ret
      exact ⟨by first | rfl | (congr 2; simp; omega), rfl⟩
  · have e : isDig c = false := by unfold isDig; simp [h1]
    rw [e]
    generalize c.toNat = n at *
    go_enter Tryd.func47, Tryd.ntmps47
    go_wp2
    go_ret
    exact ⟨by first | rfl | (congr 2; simp; omega), rfl⟩

theorem getL (b : ByteArray) (i : Nat) (h : i < b.size) : b.data.toList[i]? = some b[i] := by
  have h' : i < b.data.size := h
  rw [Array.getElem?_toList, Array.getElem?_eq_getElem h']
  rfl

theorem take_snoc (b : ByteArray) (o j : Nat) (h : o + j < b.size) : (b.data.toList.drop o).take (j + 1) = (b.data.toList.drop o).take j ++ [b[o + j]] := by
  rw [List.take_add_one, List.getElem?_drop, getL b (o + j) h]
  rfl

theorem all_snoc (l : List UInt8) (c : UInt8) : (l ++ [c]).all isDig = (l.all isDig && isDig c) := by simp

theorem all_false {l : List UInt8} {o j : Nat} {c : UInt8} {q : List UInt8} (h : (l.drop o).take (j + 1) = q ++ [c]) (hc : isDig c = false) (wd : Nat) (hj : j < wd) : ((l.drop o).take wd).all isDig = false := by
  have e : ((l.drop o).take (j + 1)).all isDig = false := by rw [h, all_snoc, hc]; simp
  rw [List.all_eq_false] at e ⊢
  obtain ⟨x, hx, hf⟩ := e
  refine ⟨x, ?_, hf⟩
  have : (l.drop o).take (j + 1) = ((l.drop o).take wd).take (j + 1) := by rw [List.take_take, Nat.min_eq_left (by omega)]
  rw [this] at hx
  exact List.mem_of_mem_take hx

theorem sz (b : ByteArray) : b.size = b.data.toList.length := by rw [Array.length_toList]; rfl

theorem val_bound {n : Nat} {l : List UInt8} (h : l.all isDig = true) (hl : l.length ≤ n) (hn : n ≤ 15) : valD l < 1000000000000000 := by
  have h1 := valD_lt l h
  have h2 : 10 ^ l.length ≤ 10 ^ 15 := Nat.pow_le_pow_right (by decide) (by omega)
  have h3 : (10 : Nat) ^ 15 = 1000000000000000 := by decide
  omega

theorem sub48 (c : UInt8) (h : isDig c = true) : IntKind.u8.wrap ((c.toNat : Int) - 48) = ((c.toNat - 48 : Nat) : Int) := by
  have := c.toNat_lt
  unfold isDig at h
  simp at h
  rw [IntWalk.u8_in _ (by omega)]
  omega

set_option maxHeartbeats 2000000 in
theorem cDigitsI (b : ByteArray) (w : World) (hb : b.size ≤ 15) :
    Calls Tryd.prog 38 #[.string b] w fun e w' => e = .returned (.tuple #[.int .i64 (if b.data.toList.all isDig = true then (valD b.data.toList : Int) else 0), .bool (b.data.toList.all isDig)]) ∧ w' = w := by
  obtain ⟨R, hR⟩ : ∃ R : Int, (if b.data.toList.all isDig = true then (valD b.data.toList : Int) else 0) = R := ⟨_, rfl⟩
  obtain ⟨B, hB⟩ : ∃ B : Bool, b.data.toList.all isDig = B := ⟨_, rfl⟩
  have HR : Hid ((if b.data.toList.all isDig = true then (valD b.data.toList : Int) else 0) = R) := hR
  have HB : Hid (b.data.toList.all isDig = B) := hB
  rw [hR, hB]
  clear hR hB
  go_enter Tryd.func38, Tryd.ntmps38
  go_wp2
  go_loop [4, 8] (fun n i => ∃ j v : Nat, i = .int .i64 (j : Int) ∧ j ≤ b.size ∧ n = .int .i64 (v : Int) ∧ v = valD ((b.data.toList.drop 0).take j) ∧ ((b.data.toList.drop 0).take j).all isDig = true) (fun _ i => b.size - (intOf i).toNat)
  case atStart => exact ⟨0, 0, rfl, Nat.zero_le _, rfl, rfl, rfl⟩
  case round =>
    obtain ⟨j, v, rfl, hj, rfl, hv, hall⟩ := hrel
    have hvb : v < 1000000000000000 := by rw [hv]; exact val_bound (n := b.size) hall (by simp; omega) hb
    have HV : Hid (v = valD ((b.data.toList.drop 0).take j)) := hv
    have HA : Hid (((b.data.toList.drop 0).take j).all isDig = true) := hall
    clear hv hall
    by_cases hlt : j < b.size
    · have hts := take_snoc b 0 j (by omega)
      simp only [Nat.zero_add] at hts
      have HT : Hid ((b.data.toList.drop 0).take (j + 1) = (b.data.toList.drop 0).take j ++ [b[j]]) := hts
      have C := fun w => cDigit b[j] w
      clear hts
      by_cases hd : isDig b[j] = true
      · have hs := sub48 b[j] hd
        have HD : Hid (isDig b[j] = true) := hd
        rw [hd] at C
        obtain ⟨x, hx⟩ : ∃ x : Nat, b[j].toNat - 48 = x := ⟨_, rfl⟩
        have hx9 : x ≤ 255 := by have := b[j].toNat_lt; omega
        have HX : Hid (b[j].toNat - 48 = x) := hx
        rw [hx] at hs
        clear hx hd
        go_wp2_with fail
        refine (C _).mono ?_
        rintro e w' ⟨rfl, rfl⟩
        go_wp2_with fail
        go_round
        case rel =>
          refine ⟨j + 1, 10 * v + x, by go_num, by omega, by go_num, ?_, ?_⟩
          · rw [HT.out, valD_snoc, ← HV.out, HX.out]
          · rw [HT.out, all_snoc, HA.out, HD.out]; rfl
        case measure => simp [intOf]; omega
      · replace hd : isDig b[j] = false := by simpa using hd
        have hf := all_false HT.out hd b.size hlt
        have e : b.data.toList.drop 0 = b.data.toList := rfl
        rw [e, List.take_of_length_le (by rw [← sz]; exact Nat.le_refl _)] at hf
        have h1 := HB.out
        have h2 := HR.out
        rw [hf] at h1 h2
        rw [if_neg (by simp)] at h2
        subst h1 h2
        rw [hd] at C
        clear hd hf HB HR HT HA HV e
        go_wp2_with fail
        refine (C _).mono ?_
        rintro e w' ⟨rfl, rfl⟩
        go_wp2_with fail
        go_ret2
        exact ⟨rfl, rfl⟩
    · have hje : j = b.size := by omega
      have e : (b.data.toList.drop 0).take j = b.data.toList := by rw [hje]; exact List.take_of_length_le (by rw [sz]; simp)
      have h1 := HB.out
      have h2 := HR.out
      have h3 := HA.out
      have h4 := HV.out
      rw [e] at h3 h4
      rw [h3] at h1 h2
      rw [if_pos rfl, ← h4] at h2
      subst h1 h2
      clear HB HR HA HV e h3 h4 hje
      go_wp2_with fail
      go_ret2
      exact ⟨rfl, rfl⟩

end Go.Proofs.YtbphbjkmgmgpkaaDoor
