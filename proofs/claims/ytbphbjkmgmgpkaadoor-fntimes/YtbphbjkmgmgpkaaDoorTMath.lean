/- Plain mathematics of times: the date of a day, the text of a time, later times have greater texts, a time is read from its text alone. -/
import Derived.Lib.ItoaNum
namespace Go.Proofs.YtbphbjkmgmgpkaaDoor

/-- A digit. -/
def dgt (k : Nat) : UInt8 := UInt8.ofNat (48 + k)

/-- Two digits. -/
def two (n : Nat) : List UInt8 := [dgt (n / 10), dgt (n % 10)]

theorem dgt_toNat (k : Nat) (h : k < 10) : (dgt k).toNat = 48 + k := by
  unfold dgt
  rw [UInt8.toNat_ofNat']
  omega

/-- A leap year's day. -/
def lp (k : Nat) : Nat := if k % 4 = 0 then 1 else 0

/-- The days ahead of year 2000 + k. -/
def yb (k : Nat) : Nat := 365 * k + (k + 3) / 4

/-- The days ahead of month m, in a year of l days more than 365. -/
def mb (l : Nat) : Nat → Nat
  | 1 => 0
  | 2 => 31
  | 3 => 59 + l
  | 4 => 90 + l
  | 5 => 120 + l
  | 6 => 151 + l
  | 7 => 181 + l
  | 8 => 212 + l
  | 9 => 243 + l
  | 10 => 273 + l
  | 11 => 304 + l
  | 12 => 334 + l
  | _ => 365 + l

/-- The days of month m. -/
def dm (l : Nat) : Nat → Nat
  | 1 => 31
  | 2 => 28 + l
  | 3 => 31
  | 4 => 30
  | 5 => 31
  | 6 => 30
  | 7 => 31
  | 8 => 31
  | 9 => 30
  | 10 => 31
  | 11 => 30
  | 12 => 31
  | _ => 0

theorem yb_succ (k : Nat) : yb (k + 1) = yb k + (365 + lp k) := by
  unfold yb lp
  split <;> omega

theorem yb_le {k k' : Nat} (h : k ≤ k') : yb k ≤ yb k' := by unfold yb; omega

theorem yb_lt_inv {k : Nat} (h : yb k < 36525) : k < 100 := by unfold yb at h; omega

theorem month_cases {m : Nat} (h1 : 1 ≤ m) (h2 : m ≤ 12) : m = 1 ∨ m = 2 ∨ m = 3 ∨ m = 4 ∨ m = 5 ∨ m = 6 ∨ m = 7 ∨ m = 8 ∨ m = 9 ∨ m = 10 ∨ m = 11 ∨ m = 12 := by omega

theorem mb_succ (l m : Nat) (h1 : 1 ≤ m) (h2 : m ≤ 12) : mb l (m + 1) = mb l m + dm l m := by
  rcases month_cases h1 h2 with h | h | h | h | h | h | h | h | h | h | h | h <;> subst h <;> simp only [mb, dm] <;> omega

theorem mb_le (l m : Nat) (h1 : 1 ≤ m) (h2 : m ≤ 12) : ∀ j : Nat, m + j ≤ 13 → mb l m ≤ mb l (m + j)
  | 0, _ => Nat.le_refl _
  | j + 1, h => by
    have := mb_le l m h1 h2 j (by omega)
    have e := mb_succ l (m + j) (by omega) (by omega)
    rw [show m + (j + 1) = m + j + 1 by omega, e]
    omega

theorem mb_13 (l : Nat) : mb l 13 = 365 + l := rfl

theorem dm_pos (l m : Nat) (h1 : 1 ≤ m) (h2 : m ≤ 12) : 28 ≤ dm l m ∧ dm l m ≤ 31 + l := by
  rcases month_cases h1 h2 with h | h | h | h | h | h | h | h | h | h | h | h <;> subst h <;> simp only [dm] <;> omega

/-- Day d is the dd-th of month m of year 2000 + k. -/
structure IsDate (d k m dd : Nat) : Prop where
  k1 : k < 100
  m0 : 1 ≤ m
  m1 : m ≤ 12
  d0 : 1 ≤ dd
  d1 : dd ≤ dm (lp k) m
  eq : d + 1 = yb k + mb (lp k) m + dd

theorem date_lt {d k m dd d' k' m' dd' : Nat} (h : IsDate d k m dd) (h' : IsDate d' k' m' dd') (hl : d < d') : k < k' ∨ k = k' ∧ (m < m' ∨ m = m' ∧ dd < dd') := by
  rcases Nat.lt_trichotomy k k' with hk | hk | hk
  · exact .inl hk
  · subst hk
    refine .inr ⟨rfl, ?_⟩
    rcases Nat.lt_trichotomy m m' with hm | hm | hm
    · exact .inl hm
    · subst hm
      have := h.eq; have := h'.eq
      exact .inr ⟨rfl, by omega⟩
    · exfalso
      have e := mb_succ (lp k) m' h'.m0 h'.m1
      have := mb_le (lp k) (m' + 1) (by omega) (by have := h.m1; omega) (m - (m' + 1)) (by have := h.m1; omega)
      rw [show m' + 1 + (m - (m' + 1)) = m by omega, e] at this
      have := h.eq; have := h'.eq; have := h'.d1
      omega
  · exfalso
    have e := yb_succ k'
    have a := yb_le (show k' + 1 ≤ k by omega)
    have e2 := mb_succ (lp k') m' h'.m0 h'.m1
    have b : mb (lp k') (m' + 1) ≤ 365 + lp k' := by
      rcases Nat.lt_or_ge m' 12 with hm | hm
      · have := mb_le (lp k') (m' + 1) (by omega) (by omega) (13 - (m' + 1)) (by omega)
        rw [show m' + 1 + (13 - (m' + 1)) = 13 by omega, mb_13] at this
        exact this
      · have : m' = 12 := by have := h'.m1; omega
        subst this
        exact Nat.le_of_eq (mb_13 _)
    have := h.eq; have := h'.eq; have := h'.d1; have := h.d0
    omega

theorem date_unique {d k m dd k' m' dd' : Nat} (h : IsDate d k m dd) (h' : IsDate d k' m' dd') : k = k' ∧ m = m' ∧ dd = dd' := by
  have key : ∀ {k m dd k' m' dd' : Nat}, IsDate d k m dd → IsDate d k' m' dd' → ¬ (k < k' ∨ k = k' ∧ (m < m' ∨ m = m' ∧ dd < dd')) := by
    intro k m dd k' m' dd' a b hlt
    rcases hlt with hk | ⟨rfl, hm | ⟨rfl, hd⟩⟩
    · -- the later date would be of a later day
      have e := yb_succ k
      have c := yb_le (show k + 1 ≤ k' by omega)
      have e2 := mb_succ (lp k) m a.m0 a.m1
      have f : mb (lp k) (m + 1) ≤ 365 + lp k := by
        rcases Nat.lt_or_ge m 12 with hm | hm
        · have := mb_le (lp k) (m + 1) (by omega) (by omega) (13 - (m + 1)) (by omega)
          rw [show m + 1 + (13 - (m + 1)) = 13 by omega, mb_13] at this
          exact this
        · have : m = 12 := by have := a.m1; omega
          subst this
          exact Nat.le_of_eq (mb_13 _)
      have := a.eq; have := b.eq; have := a.d1; have := b.d0
      omega
    · have e := mb_succ (lp k) m a.m0 a.m1
      have := mb_le (lp k) (m + 1) (by omega) (by have := b.m1; omega) (m' - (m + 1)) (by have := b.m1; omega)
      rw [show m + 1 + (m' - (m + 1)) = m' by omega, e] at this
      have := a.eq; have := b.eq; have := a.d1; have := b.d0
      omega
    · have := a.eq; have := b.eq
      omega
  have h1 := key h h'
  have h2 := key h' h
  omega

/-- A time as a text. -/
def txt (k m dd h mi s : Nat) : List UInt8 := [50, 48] ++ two k ++ [45] ++ two m ++ [45] ++ two dd ++ [84] ++ two h ++ [58] ++ two mi ++ [58] ++ two s ++ [90]

def IsText (t : Nat) (l : List UInt8) : Prop := ∃ k m dd, IsDate (t / 86400) k m dd ∧ l = txt k m dd (t % 86400 / 3600) (t % 3600 / 60) (t % 60)

theorem isText_unique {t : Nat} {l l' : List UInt8} (h : IsText t l) (h' : IsText t l') : l = l' := by
  obtain ⟨k, m, dd, a, rfl⟩ := h
  obtain ⟨k', m', dd', b, rfl⟩ := h'
  obtain ⟨rfl, rfl, rfl⟩ := date_unique a b
  rfl

theorem txt_length (k m dd h mi s : Nat) : (txt k m dd h mi s).length = 20 := by simp [txt, two]

theorem isText_length {t : Nat} {l : List UInt8} (h : IsText t l) : l.length = 20 := by
  obtain ⟨k, m, dd, a, rfl⟩ := h
  exact txt_length ..

theorem dgt_lt {a b : Nat} (hb : b < 10) (h : a < b) : dgt a < dgt b := by
  rw [UInt8.lt_iff_toNat_lt, dgt_toNat a (by omega), dgt_toNat b hb]
  omega

theorem dgt_inj {a b : Nat} (ha : a < 10) (hb : b < 10) (h : dgt a = dgt b) : a = b := by
  have := congrArg UInt8.toNat h
  rw [dgt_toNat a ha, dgt_toNat b hb] at this
  omega

theorem two_lt {a b : Nat} (hb : b < 100) (h : a < b) (x y : List UInt8) : two a ++ x < two b ++ y := by
  simp only [two, List.cons_append, List.nil_append, List.cons_lt_cons_iff]
  by_cases e : a / 10 = b / 10
  · refine .inr ⟨by rw [e], .inl (dgt_lt (by omega) (by omega))⟩
  · exact .inl (dgt_lt (by omega) (by omega))

theorem app_lt (p : List UInt8) {x y : List UInt8} (h : x < y) : p ++ x < p ++ y := by
  induction p with
  | nil => exact h
  | cons a p ih => rw [List.cons_append, List.cons_append, List.cons_lt_cons_iff]; exact .inr ⟨rfl, ih⟩

theorem two_inj {a b : Nat} (ha : a < 100) (hb : b < 100) (h : two a = two b) : a = b := by
  simp only [two, List.cons.injEq, and_true] at h
  have := dgt_inj (by omega) (by omega) h.1
  have := dgt_inj (by omega) (by omega) h.2
  omega

theorem date_bounds {d k m dd : Nat} (h : IsDate d k m dd) : k < 100 ∧ m < 100 ∧ dd < 100 := by
  have := dm_pos (lp k) m h.m0 h.m1
  have : lp k ≤ 1 := by unfold lp; split <;> omega
  have := h.k1; have := h.m1; have := h.d1
  omega

/-- LATER TIMES HAVE GREATER TEXTS. -/
theorem isText_lt {t t' : Nat} {l l' : List UInt8} (h : IsText t l) (h' : IsText t' l') (hl : t < t') : l < l' := by
  obtain ⟨k, m, dd, a, rfl⟩ := h
  obtain ⟨k', m', dd', b, rfl⟩ := h'
  obtain ⟨b1, b2, b3⟩ := date_bounds b
  simp only [txt, List.append_assoc]
  apply app_lt
  by_cases hd : t / 86400 = t' / 86400
  · rw [hd] at a
    obtain ⟨rfl, rfl, rfl⟩ := date_unique a b
    repeat (first | apply app_lt (two _) | apply app_lt [_])
    skip
    by_cases hh : t % 86400 / 3600 = t' % 86400 / 3600
    · rw [hh]
      apply app_lt; apply app_lt
      by_cases hm : t % 3600 / 60 = t' % 3600 / 60
      · rw [hm]
        apply app_lt; apply app_lt
        exact two_lt (by omega) (by omega) _ _
      · exact two_lt (by omega) (by omega) _ _
    · exact two_lt (by omega) (by omega) _ _
  · rcases date_lt a b (by omega) with hk | ⟨rfl, hm | ⟨rfl, hd⟩⟩
    · exact two_lt b1 hk _ _
    · apply app_lt; apply app_lt
      exact two_lt b2 hm _ _
    · apply app_lt; apply app_lt; apply app_lt; apply app_lt
      exact two_lt b3 hd _ _

theorem list_lt_irrefl (l : List UInt8) : ¬ l < l := by
  induction l with
  | nil => exact List.not_lt_nil _
  | cons a l ih =>
    rw [List.cons_lt_cons_iff]
    rintro (h | ⟨_, h⟩)
    · exact absurd h (UInt8.lt_irrefl a)
    · exact ih h

theorem isText_inj {t t' : Nat} {l : List UInt8} (h : IsText t l) (h' : IsText t' l) : t = t' := by
  rcases Nat.lt_trichotomy t t' with hl | hl | hl
  · exact absurd (isText_lt h h' hl) (list_lt_irrefl l)
  · exact hl
  · exact absurd (isText_lt h' h hl) (list_lt_irrefl l)

end Go.Proofs.YtbphbjkmgmgpkaaDoor
