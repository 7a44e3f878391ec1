/- Plain mathematics of numerals: ten digits are the numeral of their number. -/
import Derived.Test.YtidkbpcceoocaaaDoorHCl
import Derived.Test.YtidkbpcceoocaaaDoorHNum
namespace Go.Proofs.YtidkbpcceoocaaaDoor
set_option linter.unusedVariables false
set_option linter.unusedSimpArgs false

theorem dec_le10 (n : Nat) (h : n ≤ 9999999999) : (Lib.decDigits n).length ≤ 10 := by
  rw [Lib.decDigits_length]
  have key : ∀ (k : Nat) (u : Nat), u < 10 ^ (k + 1) → Lib.nDigits u ≤ k + 1 := by
    intro k
    induction k with
    | zero => intro u hu; rw [Lib.nDigits_small (by simpa using hu)]; exact Nat.le_refl _
    | succ k ih =>
      intro u hu
      by_cases h : u < 10
      · rw [Lib.nDigits_small h]; omega
      · rw [Lib.nDigits_big h]
        have := ih (u / 10) (by rw [Nat.pow_succ] at hu; omega)
        omega
  exact key 9 n (by omega)

theorem pad_len10 (n : Nat) (h : n ≤ 9999999999) : (padL n 10).length = 10 := by
  have := dec_le10 n h
  unfold padL
  simp
  omega

theorem dig_dgt {n : Nat} (h : n < 10) : isDig (dgt n) = true := by
  unfold isDig
  rw [dgt_toNat n h]
  simp
  omega

theorem dec_dig (n : Nat) : (Lib.decDigits n).all isDig = true := by
  induction n using Nat.strongRecOn with
  | ind n ih =>
    by_cases h : n < 10
    · rw [dec_small h]
      simp [dig_dgt h]
    · rw [dec_big h, List.all_append, ih (n / 10) (by omega)]
      simp [dig_dgt (show n % 10 < 10 by omega)]

theorem pad_dig (n wd : Nat) : (padL n wd).all isDig = true := by
  unfold padL
  rw [List.all_append, dec_dig]
  simp only [Bool.and_true, List.all_eq_true]
  intro c hc
  rw [List.mem_replicate] at hc
  rw [hc.2]
  rfl

theorem fold_from : ∀ (l : List UInt8) (n : Nat), l.foldl (fun n c => 10 * n + (c.toNat - 48)) n = n * 10 ^ l.length + valD l
  | [], n => by simp [valD]
  | c :: l, n => by
    have h1 := fold_from l (10 * n + (c.toNat - 48))
    have h2 := fold_from l (10 * 0 + (c.toNat - 48))
    have e : valD (c :: l) = l.foldl (fun n c => 10 * n + (c.toNat - 48)) (10 * 0 + (c.toNat - 48)) := rfl
    rw [List.foldl_cons, h1, e, h2, List.length_cons, Nat.pow_succ]
    rw [Nat.add_mul, Nat.add_mul, Nat.mul_comm (10 ^ l.length) 10, ← Nat.mul_assoc, Nat.mul_comm n 10]
    omega

theorem valD_cons (c : UInt8) (l : List UInt8) : valD (c :: l) = (c.toNat - 48) * 10 ^ l.length + valD l := by
  have e : valD (c :: l) = l.foldl (fun n c => 10 * n + (c.toNat - 48)) (10 * 0 + (c.toNat - 48)) := rfl
  rw [e, fold_from]
  congr 2
  omega

theorem lead_eq {a b v u P : Nat} (hv : v < P) (hu : u < P) (h : a * P + v = b * P + u) : a = b ∧ v = u := by
  have key : ∀ {a b v u : Nat}, v < P → u < P → a * P + v = b * P + u → ¬ a < b := by
    intro a b v u hv hu h hab
    have := Nat.mul_le_mul_right P (show a + 1 ≤ b by omega)
    rw [Nat.add_mul] at this
    omega
  have h1 := key hv hu h
  have h2 := key hu hv h.symm
  have e : a = b := by omega
  subst e
  exact ⟨rfl, by omega⟩

theorem valD_inj : ∀ (l m : List UInt8), l.length = m.length → l.all isDig = true → m.all isDig = true → valD l = valD m → l = m
  | [], [], _, _, _, _ => rfl
  | c :: l, d :: m, hl, h1, h2, h => by
    simp only [List.length_cons, Nat.add_right_cancel_iff] at hl
    simp only [List.all_cons, Bool.and_eq_true] at h1 h2
    rw [valD_cons, valD_cons, hl] at h
    have b1 := valD_lt l h1.2
    have b2 := valD_lt m h2.2
    rw [hl] at b1
    obtain ⟨e1, e2⟩ := lead_eq b1 b2 h
    have e3 := valD_inj l m hl h1.2 h2.2 e2
    have c1 := h1.1
    have c2 := h2.1
    unfold isDig at c1 c2
    simp at c1 c2
    rw [e3, UInt8.toNat_inj.1 (show c.toNat = d.toNat by omega)]
  | [], _ :: _, h, _, _, _ => by simp at h
  | _ :: _, [], h, _, _, _ => by simp at h

/-- What Number reads, Digits writes. -/
theorem num_dg {l : List UInt8} {x : Int} (h : numOf l = (x, true)) : dgL x = l := by
  unfold numOf at h
  split at h
  · rename_i hc
    obtain ⟨h1, h2⟩ := hc
    have hx : (valD l : Int) = x := congrArg Prod.fst h
    have hb := valD_lt l h2
    rw [h1] at hb
    unfold dgL
    rw [if_pos (by omega), ← hx]
    simp only [Int.toNat_natCast]
    refine valD_inj _ _ ?_ (pad_dig _ _) h2 (valD_pad _ _)
    rw [pad_len10 _ (by omega), h1]
  · simp at h

/-- What Digits writes, Number reads. -/
theorem dg_num {n : Int} (h : dgL n ≠ []) : numOf (dgL n) = (n, true) ∧ (dgL n).length = 10 ∧ 0 ≤ n ∧ n ≤ 9999999999 := by
  by_cases hr : 0 ≤ n ∧ n ≤ 9999999999
  · have e : dgL n = padL n.toNat 10 := by unfold dgL; rw [if_pos hr]
    have hl := pad_len10 n.toNat (by omega)
    rw [e]
    refine ⟨?_, hl, hr⟩
    unfold numOf
    rw [if_pos ⟨hl, pad_dig _ _⟩, valD_pad]
    congr 1
    omega
  · exact absurd (show dgL n = [] by unfold dgL; rw [if_neg hr]) h

theorem dg_nil {n : Int} (h : dgL n = []) : n < 0 ∨ 9999999999 < n := by
  by_cases hr : 0 ≤ n ∧ n ≤ 9999999999
  · exfalso
    have hl := pad_len10 n.toNat (by omega)
    unfold dgL at h
    rw [if_pos hr] at h
    rw [h] at hl
    simp at hl
  · omega

/-- A text with one byte set, as a list of two: no clash. -/
theorem clB_pair (s t : ByteArray) (h : s ≠ t → hsL s.data.toList ≠ hsL t.data.toList) : clB [s, t] = false := by
  apply clB_false
  intro a ha b hb he
  simp only [List.mem_cons, List.not_mem_nil, or_false] at ha hb
  rcases ha with rfl | rfl <;> rcases hb with rfl | rfl
  · rfl
  · exact Decidable.byContradiction fun hn => h hn he
  · exact Decidable.byContradiction fun hn => h (fun e => hn e.symm) he.symm
  · rfl

end Go.Proofs.YtidkbpcceoocaaaDoor
