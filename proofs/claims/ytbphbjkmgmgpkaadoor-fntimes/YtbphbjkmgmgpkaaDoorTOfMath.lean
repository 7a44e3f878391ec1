/- Plain mathematics of reading a time: the fields of a text, their numbers, the one time of which a text is made. -/
import Derived.Test.YtbphbjkmgmgpkaaDoorTText
namespace Go.Proofs.YtbphbjkmgmgpkaaDoor

def isDig (c : UInt8) : Bool := decide (48 ≤ c.toNat) && decide (c.toNat ≤ 57)

def valD (l : List UInt8) : Nat := l.foldl (fun n c => 10 * n + (c.toNat - 48)) 0

/-- The number that digits tell; -1 of others. -/
def rdI (l : List UInt8) : Int := if l.all isDig = true then (valD l : Int) else -1

theorem valD_snoc (l : List UInt8) (c : UInt8) : valD (l ++ [c]) = 10 * valD l + (c.toNat - 48) := by
  unfold valD
  rw [List.foldl_append]
  rfl

theorem fold_lt : ∀ (l : List UInt8) (n : Nat), l.all isDig = true → l.foldl (fun n c => 10 * n + (c.toNat - 48)) n < (n + 1) * 10 ^ l.length
  | [], n, _ => by simp
  | c :: l, n, h => by
    simp only [List.all_cons, Bool.and_eq_true] at h
    have hc : c.toNat - 48 ≤ 9 := by
      have := h.1
      unfold isDig at this
      simp at this
      omega
    have ih := fold_lt l (10 * n + (c.toNat - 48)) h.2
    rw [List.foldl_cons, List.length_cons, Nat.pow_succ]
    have : (10 * n + (c.toNat - 48) + 1) * 10 ^ l.length ≤ (10 * n + 10) * 10 ^ l.length := Nat.mul_le_mul_right _ (by omega)
    have e : (n + 1) * (10 ^ l.length * 10) = (10 * n + 10) * 10 ^ l.length := by
      rw [Nat.mul_comm (10 ^ l.length) 10, ← Nat.mul_assoc]
      congr 1
      omega
    omega

theorem valD_lt (l : List UInt8) (h : l.all isDig = true) : valD l < 10 ^ l.length := by
  have := fold_lt l 0 h
  unfold valD
  simpa using this

theorem rdI_bounds (l : List UInt8) : -1 ≤ rdI l ∧ rdI l < 10 ^ l.length := by
  unfold rdI
  split
  · rename_i h
    have := valD_lt l h
    refine ⟨by omega, ?_⟩
    exact_mod_cast this
  · have : (0 : Int) < 10 ^ l.length := Int.pow_pos (by decide)
    omega

theorem dig_dgt {n : Nat} (h : n < 10) : isDig (dgt n) = true := by
  unfold isDig
  rw [dgt_toNat n h]
  simp
  omega

theorem rdI_two {n : Nat} (h : n < 100) : rdI (two n) = n := by
  have h1 : n / 10 < 10 := by omega
  have h2 : n % 10 < 10 := by omega
  unfold rdI
  rw [if_pos (by simp only [two, List.all_cons, List.all_nil, dig_dgt h1, dig_dgt h2]; rfl)]
  simp only [valD, two, List.foldl_cons, List.foldl_nil, dgt_toNat _ h1, dgt_toNat _ h2]
  omega

theorem rdI_year {k : Nat} (h : k < 100) : rdI ([50, 48] ++ two k) = 2000 + k := by
  have h1 : k / 10 < 10 := by omega
  have h2 : k % 10 < 10 := by omega
  have a : isDig 50 = true := by decide
  have b : isDig 48 = true := by decide
  unfold rdI
  rw [if_pos (by simp only [two, List.cons_append, List.nil_append, List.all_cons, List.all_nil, dig_dgt h1, dig_dgt h2, a, b]; rfl)]
  simp only [valD, two, List.cons_append, List.nil_append, List.foldl_cons, List.foldl_nil, dgt_toNat _ h1, dgt_toNat _ h2]
  have c : (50 : UInt8).toNat = 50 := rfl
  have d : (48 : UInt8).toNat = 48 := rfl
  rw [c, d]
  omega

/-- Where field q begins, and how wide it is. -/
def off (q : Nat) : Nat := if q = 0 then 0 else 3 * q + 2
def wid (q : Nat) : Nat := if q = 0 then 4 else 2
def fieldL (l : List UInt8) (q : Nat) : List UInt8 := (l.drop (off q)).take (wid q)

/-- The time of these six numbers, if there is one. -/
def cand (k m : Nat) (n2 n3 n4 n5 : Int) : Int := ((yb k + mb (lp k) m : Nat) + n2 - 1) * 86400 + n3 * 3600 + n4 * 60 + n5

theorem text_fields {t : Nat} {l : List UInt8} (ht : t ≤ 3155759999) (h : textOf t = l) :
    ∃ k m dd : Nat, IsDate (t / 86400) k m dd ∧ rdI (fieldL l 0) = 2000 + k ∧ rdI (fieldL l 1) = m ∧ rdI (fieldL l 2) = dd ∧ 0 ≤ rdI (fieldL l 3) ∧ 0 ≤ rdI (fieldL l 4) ∧ 0 ≤ rdI (fieldL l 5) ∧
      cand k m (rdI (fieldL l 2)) (rdI (fieldL l 3)) (rdI (fieldL l 4)) (rdI (fieldL l 5)) = t := by
  obtain ⟨k, m, dd, a, e⟩ := textOf_is ht
  obtain ⟨b1, b2, b3⟩ := date_bounds a
  rw [h] at e
  have f0 : fieldL l 0 = [50, 48] ++ two k := by rw [e]; rfl
  have f1 : fieldL l 1 = two m := by rw [e]; rfl
  have f2 : fieldL l 2 = two dd := by rw [e]; rfl
  have f3 : fieldL l 3 = two (t % 86400 / 3600) := by rw [e]; rfl
  have f4 : fieldL l 4 = two (t % 3600 / 60) := by rw [e]; rfl
  have f5 : fieldL l 5 = two (t % 60) := by rw [e]; rfl
  have g2 := rdI_two b3
  have g3 := rdI_two (show t % 86400 / 3600 < 100 by omega)
  have g4 := rdI_two (show t % 3600 / 60 < 100 by omega)
  have g5 := rdI_two (show t % 60 < 100 by omega)
  refine ⟨k, m, dd, a, by rw [f0]; exact rdI_year b1, by rw [f1]; exact rdI_two b2, by rw [f2]; exact g2, by rw [f3, g3]; omega, by rw [f4, g4]; omega, by rw [f5, g5]; omega, ?_⟩
  rw [f2, f3, f4, f5, g2, g3, g4, g5]
  unfold cand
  have := a.eq
  omega

open Classical in
/-- The time of which the text is made, and true; 0 and false of none. -/
noncomputable def timeOf (l : List UInt8) : Int × Bool := if h : ∃ t : Nat, t ≤ 3155759999 ∧ textOf t = l then ((h.choose : Nat), true) else (0, false)

theorem textOf_inj {t t' : Nat} (h : t ≤ 3155759999) (h' : t' ≤ 3155759999) (e : textOf t = textOf t') : t = t' := by
  have a := textOf_is h
  have b := textOf_is h'
  rw [e] at a
  exact isText_inj a b

theorem timeOf_yes {l : List UInt8} {t : Nat} (ht : t ≤ 3155759999) (h : textOf t = l) : timeOf l = ((t : Int), true) := by
  have hx : ∃ t : Nat, t ≤ 3155759999 ∧ textOf t = l := ⟨t, ht, h⟩
  unfold timeOf
  rw [dif_pos hx]
  have := textOf_inj hx.choose_spec.1 ht (hx.choose_spec.2.trans h.symm)
  rw [this]

theorem timeOf_no {l : List UInt8} (h : ∀ t : Nat, t ≤ 3155759999 → textOf t ≠ l) : timeOf l = (0, false) := by
  unfold timeOf
  rw [dif_neg]
  rintro ⟨t, ht, e⟩
  exact h t ht e

theorem timeOf_len {l : List UInt8} (h : l.length ≠ 20) : timeOf l = (0, false) :=
  timeOf_no fun t ht e => h (by rw [← e]; exact isText_length (textOf_is ht))

/-- A field that is wrong. -/
theorem timeOf_bad {l : List UInt8} (h : ¬ ((∃ k m : Nat, k < 100 ∧ 1 ≤ m ∧ m ≤ 12 ∧ rdI (fieldL l 0) = 2000 + k ∧ rdI (fieldL l 1) = m ∧ 1 ≤ rdI (fieldL l 2) ∧ rdI (fieldL l 2) ≤ dm (lp k) m) ∧ 0 ≤ rdI (fieldL l 3) ∧ 0 ≤ rdI (fieldL l 4) ∧ 0 ≤ rdI (fieldL l 5))) : timeOf l = (0, false) :=
  timeOf_no fun t ht e => by
    obtain ⟨k, m, dd, a, h0, h1, h2, h3, h4, h5, _⟩ := text_fields ht e
    exact h ⟨⟨k, m, a.k1, a.m0, a.m1, h0, h1, by have := a.d0; omega, by have := a.d1; omega⟩, h3, h4, h5⟩

/-- The candidate decides. -/
theorem timeOf_cand {l : List UInt8} {k m : Nat} {n2 n3 n4 n5 : Int} (hk : k < 100) (h0 : rdI (fieldL l 0) = 2000 + k) (h1 : rdI (fieldL l 1) = m) (e2 : rdI (fieldL l 2) = n2) (e3 : rdI (fieldL l 3) = n3) (e4 : rdI (fieldL l 4) = n4) (e5 : rdI (fieldL l 5) = n5) (hl : l.length = 20) :
    timeOf l = if textOf (cand k m n2 n3 n4 n5) = l then (cand k m n2 n3 n4 n5, true) else (0, false) := by
  subst e2 e3 e4 e5
  by_cases hc : textOf (cand k m (rdI (fieldL l 2)) (rdI (fieldL l 3)) (rdI (fieldL l 4)) (rdI (fieldL l 5))) = l
  · rw [if_pos hc]
    generalize cand k m (rdI (fieldL l 2)) (rdI (fieldL l 3)) (rdI (fieldL l 4)) (rdI (fieldL l 5)) = c at *
    by_cases hr : 0 ≤ c ∧ c ≤ 3155759999
    · obtain ⟨n, rfl⟩ : ∃ n : Nat, c = n := ⟨c.toNat, by omega⟩
      exact timeOf_yes (by omega) hc
    · rw [textOf_out hr] at hc
      rw [← hc] at hl
      simp at hl
  · rw [if_neg hc]
    refine timeOf_no fun t ht e => hc ?_
    obtain ⟨k', m', dd, a, g0, g1, g2, g3, g4, g5, gc⟩ := text_fields ht e
    have : k' = k := by omega
    subst this
    have : m' = m := by omega
    subst this
    rw [gc]
    exact e

end Go.Proofs.YtbphbjkmgmgpkaaDoor
