/- Digits read: the number that they tell; the program's digitsValue and the specification's l3Digits. -/
import Derived.Test.YtidkbpcceoocaaaDoorRows
import Derived.WalkKit
namespace Go.Proofs.YtidkbpcceoocaaaDoor
open Go.RowKit
set_option linter.unusedVariables false
set_option linter.unusedSimpArgs false

def isDig (c : UInt8) : Bool := decide (48 ≤ c.toNat) && decide (c.toNat ≤ 57)

def valD (l : List UInt8) : Nat := l.foldl (fun n c => 10 * n + (c.toNat - 48)) 0

/-- The number that digits tell; -1 of others. -/
def rdI (l : List UInt8) : Int := if l.all isDig = true then (valD l : Int) else -1

theorem valD_snoc (l : List UInt8) (c : UInt8) : valD (l ++ [c]) = 10 * valD l + (c.toNat - 48) := by
  unfold valD
  rw [List.foldl_append]
  rfl

theorem fold_lt : ∀ (l : List UInt8) (n : Nat), l.all isDig = true → l.foldl (fun n c => 10 * n + (c.toNat - 48)) n < (n + 1) * 10 ^ l.length
  | [], n, _ => by simp
  | c :: l, n, h => by
    simp only [List.all_cons, Bool.and_eq_true] at h
    have hc : c.toNat - 48 ≤ 9 := by
      have := h.1
      unfold isDig at this
      simp at this
      omega
    have ih := fold_lt l (10 * n + (c.toNat - 48)) h.2
    rw [List.foldl_cons, List.length_cons, Nat.pow_succ]
    have : (10 * n + (c.toNat - 48) + 1) * 10 ^ l.length ≤ (10 * n + 10) * 10 ^ l.length := Nat.mul_le_mul_right _ (by omega)
    have e : (n + 1) * (10 ^ l.length * 10) = (10 * n + 10) * 10 ^ l.length := by
      rw [Nat.mul_comm (10 ^ l.length) 10, ← Nat.mul_assoc]
      congr 1
      omega
    omega

theorem valD_lt (l : List UInt8) (h : l.all isDig = true) : valD l < 10 ^ l.length := by
  have := fold_lt l 0 h
  unfold valD
  simpa using this

theorem rdI_bounds (l : List UInt8) : -1 ≤ rdI l ∧ rdI l < 10 ^ l.length := by
  unfold rdI
  split
  · rename_i h
    have := valD_lt l h
    refine ⟨by omega, ?_⟩
    exact_mod_cast this
  · have : (0 : Int) < 10 ^ l.length := Int.pow_pos (by decide)
    omega

theorem cDigit (c : UInt8) (w : World) :
    Calls Tryd.prog 39 #[.int .u8 c.toNat] w fun e w' => e = .returned (.bool (isDig c)) ∧ w' = w := by
  by_cases h1 : 48 ≤ c.toNat
  · by_cases h2 : c.toNat ≤ 57
    · have e : isDig c = true := by unfold isDig; simp [h1, h2]
      rw [e]
      generalize c.toNat = n at *
      go_enter Tryd.func39, Tryd.ntmps39
      go_wp2
      go_ret
      exact ⟨by first | rfl | (congr 2; simp; omega), rfl⟩
    · have e : isDig c = false := by unfold isDig; simp [h2]
      rw [e]
      generalize c.toNat = n at *
      go_enter Tryd.func39, Tryd.ntmps39
      go_wp2
      go_ret
      exact ⟨by first | rfl | (congr 2; simp; omega), rfl⟩
  · have e : isDig c = false := by unfold isDig; simp [h1]
    rw [e]
    generalize c.toNat = n at *
    go_enter Tryd.func39, Tryd.ntmps39
    go_wp2
    go_ret
    exact ⟨by first | rfl | (congr 2; simp; omega), rfl⟩

theorem getL (b : ByteArray) (i : Nat) (h : i < b.size) : b.data.toList[i]? = some b[i] := by
  have h' : i < b.data.size := h
  rw [Array.getElem?_toList, Array.getElem?_eq_getElem h']
  rfl

theorem take_snoc (b : ByteArray) (o j : Nat) (h : o + j < b.size) : (b.data.toList.drop o).take (j + 1) = (b.data.toList.drop o).take j ++ [b[o + j]] := by
  rw [List.take_add_one, List.getElem?_drop, getL b (o + j) h]
  rfl

theorem all_snoc (l : List UInt8) (c : UInt8) : (l ++ [c]).all isDig = (l.all isDig && isDig c) := by simp

theorem all_false {l : List UInt8} {o j : Nat} {c : UInt8} {q : List UInt8} (h : (l.drop o).take (j + 1) = q ++ [c]) (hc : isDig c = false) (wd : Nat) (hj : j < wd) : ((l.drop o).take wd).all isDig = false := by
  have e : ((l.drop o).take (j + 1)).all isDig = false := by rw [h, all_snoc, hc]; simp
  rw [List.all_eq_false] at e ⊢
  obtain ⟨x, hx, hf⟩ := e
  refine ⟨x, ?_, hf⟩
  have : (l.drop o).take (j + 1) = ((l.drop o).take wd).take (j + 1) := by rw [List.take_take, Nat.min_eq_left (by omega)]
  rw [this] at hx
  exact List.mem_of_mem_take hx

theorem sz (b : ByteArray) : b.size = b.data.toList.length := by rw [Array.length_toList]; rfl

theorem val_bound {n : Nat} {l : List UInt8} (h : l.all isDig = true) (hl : l.length ≤ n) (hn : n ≤ 15) : valD l < 1000000000000000 := by
  have h1 := valD_lt l h
  have h2 : 10 ^ l.length ≤ 10 ^ 15 := Nat.pow_le_pow_right (by decide) (by omega)
  have h3 : (10 : Nat) ^ 15 = 1000000000000000 := by decide
  omega

theorem sub48 (c : UInt8) (h : isDig c = true) : IntKind.u8.wrap ((c.toNat : Int) - 48) = ((c.toNat - 48 : Nat) : Int) := by
  have := c.toNat_lt
  unfold isDig at h
  simp at h
  rw [IntWalk.u8_in _ (by omega)]
  omega

set_option maxHeartbeats 2000000 in
theorem cDigitsI (b : ByteArray) (w : World) (hb : b.size ≤ 15) :
    Calls Tryd.prog 30 #[.string b] w fun e w' => e = .returned (.tuple #[.int .i64 (if b.data.toList.all isDig = true then (valD b.data.toList : Int) else 0), .bool (b.data.toList.all isDig)]) ∧ w' = w := by
  obtain ⟨R, hR⟩ : ∃ R : Int, (if b.data.toList.all isDig = true then (valD b.data.toList : Int) else 0) = R := ⟨_, rfl⟩
  obtain ⟨B, hB⟩ : ∃ B : Bool, b.data.toList.all isDig = B := ⟨_, rfl⟩
  have HR : Hid ((if b.data.toList.all isDig = true then (valD b.data.toList : Int) else 0) = R) := hR
  have HB : Hid (b.data.toList.all isDig = B) := hB
  rw [hR, hB]
  clear hR hB
  go_enter Tryd.func30, Tryd.ntmps30
  go_wp2
  go_loop [4, 8] (fun n i => ∃ j v : Nat, i = .int .i64 (j : Int) ∧ j ≤ b.size ∧ n = .int .i64 (v : Int) ∧ v = valD ((b.data.toList.drop 0).take j) ∧ ((b.data.toList.drop 0).take j).all isDig = true) (fun _ i => b.size - (intOf i).toNat)
  case atStart => exact ⟨0, 0, rfl, Nat.zero_le _, rfl, rfl, rfl⟩
  case round =>
    obtain ⟨j, v, rfl, hj, rfl, hv, hall⟩ := hrel
    have hvb : v < 1000000000000000 := by rw [hv]; exact val_bound (n := b.size) hall (by simp; omega) hb
    have HV : Hid (v = valD ((b.data.toList.drop 0).take j)) := hv
    have HA : Hid (((b.data.toList.drop 0).take j).all isDig = true) := hall
    clear hv hall
    by_cases hlt : j < b.size
    · have hts := take_snoc b 0 j (by omega)
      simp only [Nat.zero_add] at hts
      have HT : Hid ((b.data.toList.drop 0).take (j + 1) = (b.data.toList.drop 0).take j ++ [b[j]]) := hts
      have C := fun w => cDigit b[j] w
      clear hts
      by_cases hd : isDig b[j] = true
      · have hs := sub48 b[j] hd
        have HD : Hid (isDig b[j] = true) := hd
        rw [hd] at C
        obtain ⟨x, hx⟩ : ∃ x : Nat, b[j].toNat - 48 = x := ⟨_, rfl⟩
        have hx9 : x ≤ 255 := by have := b[j].toNat_lt; omega
        have HX : Hid (b[j].toNat - 48 = x) := hx
        rw [hx] at hs
        clear hx hd
        go_wp2_with fail
        refine (C _).mono ?_
        rintro e w' ⟨rfl, rfl⟩
        go_wp2_with fail
        go_round
        case rel =>
          refine ⟨j + 1, 10 * v + x, by go_num, by omega, by go_num, ?_, ?_⟩
          · rw [HT.out, valD_snoc, ← HV.out, HX.out]
          · rw [HT.out, all_snoc, HA.out, HD.out]; rfl
        case measure => simp [intOf]; omega
      · replace hd : isDig b[j] = false := by simpa using hd
        have hf := all_false HT.out hd b.size hlt
        have e : b.data.toList.drop 0 = b.data.toList := rfl
        rw [e, List.take_of_length_le (by rw [← sz]; exact Nat.le_refl _)] at hf
        have h1 := HB.out
        have h2 := HR.out
        rw [hf] at h1 h2
        rw [if_neg (by simp)] at h2
        subst h1 h2
        rw [hd] at C
        clear hd hf HB HR HT HA HV e
        go_wp2_with fail
        refine (C _).mono ?_
        rintro e w' ⟨rfl, rfl⟩
        go_wp2_with fail
        go_ret2
        exact ⟨rfl, rfl⟩
    · have hje : j = b.size := by omega
      have e : (b.data.toList.drop 0).take j = b.data.toList := by rw [hje]; exact List.take_of_length_le (by rw [sz]; simp)
      have h1 := HB.out
      have h2 := HR.out
      have h3 := HA.out
      have h4 := HV.out
      rw [e] at h3 h4
      rw [h3] at h1 h2
      rw [if_pos rfl, ← h4] at h2
      subst h1 h2
      clear HB HR HA HV e h3 h4 hje
      go_wp2_with fail
      go_ret2
      exact ⟨rfl, rfl⟩

set_option maxHeartbeats 2000000 in
theorem cDigitsS (b : ByteArray) (o wd : Nat) (w : World) (hw : wd ≤ 15) (hb : o + wd ≤ b.size) (hs : b.size ≤ 1048576) :
    Calls Tryd.prog 31 #[.string b, .int .i64 o, .int .i64 wd] w fun e w' => e = .returned (.int .i64 (rdI ((b.data.toList.drop o).take wd))) ∧ w' = w := by
  obtain ⟨R, hR⟩ : ∃ R : Int, rdI ((b.data.toList.drop o).take wd) = R := ⟨_, rfl⟩
  have HR : Hid (rdI ((b.data.toList.drop o).take wd) = R) := hR
  rw [hR]
  clear hR
  go_enter Tryd.func31, Tryd.ntmps31
  go_wp2
  go_loop [7, 8] (fun n i => ∃ j v : Nat, i = .int .i64 ((o + j : Nat) : Int) ∧ j ≤ wd ∧ n = .int .i64 (v : Int) ∧ v = valD ((b.data.toList.drop o).take j) ∧ ((b.data.toList.drop o).take j).all isDig = true) (fun _ i => o + wd - (intOf i).toNat)
  case atStart => exact ⟨0, 0, rfl, Nat.zero_le _, rfl, rfl, rfl⟩
  case round =>
    obtain ⟨j, v, rfl, hj, rfl, hv, hall⟩ := hrel
    have hvb : v < 1000000000000000 := by rw [hv]; exact val_bound (n := wd) hall (by simp; omega) hw
    have HV : Hid (v = valD ((b.data.toList.drop o).take j)) := hv
    have HA : Hid (((b.data.toList.drop o).take j).all isDig = true) := hall
    clear hv hall
    obtain ⟨p, hp⟩ : ∃ p : Nat, o + j = p := ⟨_, rfl⟩
    have HP : Hid (o + j = p) := hp
    by_cases hlt : j < wd
    · have hpb : p < b.size := by omega
      have hpw : p < o + wd := by omega
      have hts := take_snoc b o j (by omega)
      simp only [hp] at hts
      have HT : Hid ((b.data.toList.drop o).take (j + 1) = (b.data.toList.drop o).take j ++ [b[p]]) := hts
      rw [hp]
      clear hts hp
      have hwr : IntKind.i64.wrap ((o : Int) + (wd : Int)) = (o : Int) + (wd : Int) := IntWalk.i64_in _ (by omega)
      have hpi : (p : Int) < (o : Int) + (wd : Int) := by omega
      by_cases hd : isDig b[p] = true
      · have hs48 := sub48 b[p] hd
        have HD : Hid (isDig b[p] = true) := hd
        have q1 : 48 ≤ b[p].toNat := by unfold isDig at hd; simp at hd; omega
        have q2 : b[p].toNat ≤ 57 := by unfold isDig at hd; simp at hd; omega
        have d1 : decide ((b[p].toNat : Int) < 48) = false := by simp; omega
        have d2 : decide ((57 : Int) < (b[p].toNat : Int)) = false := by simp; omega
        obtain ⟨x, hx⟩ : ∃ x : Nat, b[p].toNat - 48 = x := ⟨_, rfl⟩
        have hx9 : x ≤ 255 := by omega
        have HX : Hid (b[p].toNat - 48 = x) := hx
        rw [hx] at hs48
        clear hx hd
        go_wp2_with fail
        go_round
        case rel =>
          have h1 := HP.out
          refine ⟨j + 1, 10 * v + x, by go_num, by omega, by go_num, ?_, ?_⟩
          · rw [HT.out, valD_snoc, ← HV.out, HX.out]
          · rw [HT.out, all_snoc, HA.out, HD.out]; rfl
        case measure => simp [intOf]; omega
      · replace hd : isDig b[p] = false := by simpa using hd
        have hf := all_false HT.out hd wd hlt
        have h2 := HR.out
        unfold rdI at h2
        rw [if_neg (by rw [hf]; simp)] at h2
        subst h2
        have hq : b[p].toNat < 48 ∨ (48 ≤ b[p].toNat ∧ 57 < b[p].toNat) := by
          unfold isDig at hd
          simp at hd
          omega
        clear hd hf HR HT HA HV
        rcases hq with hq | ⟨hq, hq2⟩
        · have d1 : decide ((b[p].toNat : Int) < 48) = true := by simp; omega
          go_wp2_with fail
          go_ret
          exact ⟨rfl, rfl⟩
        · have d1 : decide ((b[p].toNat : Int) < 48) = false := by simp; omega
          have d2 : decide ((57 : Int) < (b[p].toNat : Int)) = true := by simp; omega
          go_wp2_with fail
          go_ret
          exact ⟨rfl, rfl⟩
    · have hje : j = wd := by omega
      have hpw : ¬ p < o + wd := by omega
      rw [hp]
      clear hp
      have hwr : IntKind.i64.wrap ((o : Int) + (wd : Int)) = (o : Int) + (wd : Int) := IntWalk.i64_in _ (by omega)
      have hpi : ¬ (p : Int) < (o : Int) + (wd : Int) := by omega
      have h2 := HR.out
      unfold rdI at h2
      rw [← hje, if_pos HA.out, ← HV.out] at h2
      subst h2
      clear HR HA HV hje
      go_wp2_with fail
      go_ret
      exact ⟨rfl, rfl⟩

end Go.Proofs.YtidkbpcceoocaaaDoor
