/- The letters of bytes and back, over plain lists: what ToLetters writes, what both ways of reading it make of it. -/
import Derived.Lib.Bytealg
import Derived.Lib.IndexLaws
namespace Go.Proofs.YtgnphekelklchaaDoor

/-- The 64 letters in their order. -/
def alphaL : List UInt8 := [65, 66, 67, 68, 69, 70, 71, 72, 73, 74, 75, 76, 77, 78, 79, 80, 81, 82, 83, 84, 85, 86, 87, 88, 89, 90, 97, 98, 99, 100, 101, 102, 103, 104, 105, 106, 107, 108, 109, 110, 111, 112, 113, 114, 115, 116, 117, 118, 119, 120, 121, 122, 48, 49, 50, 51, 52, 53, 54, 55, 56, 57, 43, 47]

def letN (n : Nat) : UInt8 := alphaL.getD n 0

def valN (b : UInt8) : Int := Lib.indexByte alphaL b

theorem alpha_len : alphaL.length = 64 := by decide

theorem val_let : ∀ n : Fin 64, valN (letN n.val) = (n.val : Int) := by decide +kernel
theorem val_let' (n : Nat) (h : n < 64) : valN (letN n) = n := val_let ⟨n, h⟩
theorem let_ne : ∀ n : Fin 64, letN n.val ≠ 61 := by decide +kernel
theorem let_ne' (n : Nat) (h : n < 64) : letN n ≠ 61 := let_ne ⟨n, h⟩
theorem val_fill : valN 61 = -1 := by decide +kernel
theorem val_ge (b : UInt8) : -1 ≤ valN b := Lib.indexByte_ge _ _
theorem val_get {b : UInt8} (h : 0 ≤ valN b) : alphaL[(valN b).toNat]? = some b := (Lib.indexByte_some (l := alphaL) (c := b) (o := (valN b).toNat) (by show valN b = _; omega)).1
theorem val_lt (b : UInt8) : valN b < 64 := by
  by_cases h : 0 ≤ valN b
  · have h1 := val_get h
    have h2 := (List.getElem?_eq_some_iff.1 h1).1
    rw [alpha_len] at h2
    omega
  · omega
theorem let_val {b : UInt8} (h : 0 ≤ valN b) : letN (valN b).toNat = b := by
  unfold letN
  rw [List.getD_eq_getElem?_getD, val_get h]
  rfl

/-- What ToLetters writes. -/
def toL : List UInt8 → List UInt8
  | [] => []
  | [a] => [letN (a.toNat / 4), letN (a.toNat % 4 * 16), 61, 61]
  | [a, b] => [letN (a.toNat / 4), letN (a.toNat % 4 * 16 + b.toNat / 16), letN (b.toNat % 16 * 4), 61]
  | a :: b :: c :: r => letN (a.toNat / 4) :: letN (a.toNat % 4 * 16 + b.toNat / 16) :: letN (b.toNat % 16 * 4 + c.toNat / 64) :: letN (c.toNat % 64) :: toL r

theorem toL_len : ∀ l : List UInt8, (toL l).length = (l.length + 2) / 3 * 4
  | [] => rfl
  | [_] => by simp [toL]
  | [_, _] => by simp [toL]
  | a :: b :: c :: r => by
    have := toL_len r
    simp only [toL, List.length_cons, this]
    omega

/-! ### The program's own writing: held bits and their count -/

def stepE (s : Nat × Nat × List UInt8) (x : UInt8) : Nat × Nat × List UInt8 :=
  if s.2.1 = 0 then (x.toNat % 4, 2, s.2.2 ++ [letN (x.toNat / 4)])
  else if s.2.1 = 2 then ((s.1 * 256 + x.toNat) % 16, 4, s.2.2 ++ [letN ((s.1 * 256 + x.toNat) / 16)])
  else (0, 0, s.2.2 ++ [letN ((s.1 * 256 + x.toNat) / 64), letN ((s.1 * 256 + x.toNat) % 64)])

def stE (l : List UInt8) : Nat × Nat × List UInt8 := l.foldl stepE (0, 0, [])

theorem stE_snoc (l : List UInt8) (x : UInt8) : stE (l ++ [x]) = stepE (stE l) x := by simp [stE]

def okE (s : Nat × Nat × List UInt8) : Prop :=
  (s.2.1 = 0 ∧ s.1 = 0 ∧ s.2.2.length % 4 = 0) ∨ (s.2.1 = 2 ∧ s.1 < 4 ∧ s.2.2.length % 4 = 1) ∨ (s.2.1 = 4 ∧ s.1 < 16 ∧ s.2.2.length % 4 = 2)

theorem stepE_ok {s : Nat × Nat × List UInt8} (h : okE s) (x : UInt8) : okE (stepE s x) := by
  obtain ⟨hh, c, out⟩ := s
  have hx := x.toNat_lt
  rcases h with ⟨h1, h2, h3⟩ | ⟨h1, h2, h3⟩ | ⟨h1, h2, h3⟩ <;> simp only at h1 h2 h3 <;> subst h1
  · exact .inr (.inl ⟨rfl, by simp [stepE]; omega, by simp [stepE]; omega⟩)
  · exact .inr (.inr ⟨rfl, by simp [stepE]; omega, by simp [stepE]; omega⟩)
  · exact .inl ⟨rfl, rfl, by simp [stepE]; omega⟩

theorem stE_ok (l : List UInt8) : okE (stE l) := by
  suffices h : ∀ (l : List UInt8) (s : Nat × Nat × List UInt8), okE s → okE (l.foldl stepE s) from h l _ (.inl ⟨rfl, rfl, rfl⟩)
  intro l
  induction l with
  | nil => intro s h; exact h
  | cons x r ih => intro s h; exact ih _ (stepE_ok h x)

theorem stepE_len (s : Nat × Nat × List UInt8) (x : UInt8) : (stepE s x).2.2.length ≤ s.2.2.length + 2 := by
  unfold stepE
  split
  · simp
  · split <;> simp

theorem stE_len (l : List UInt8) : (stE l).2.2.length ≤ 2 * l.length := by
  suffices h : ∀ (l : List UInt8) (s : Nat × Nat × List UInt8), (l.foldl stepE s).2.2.length ≤ s.2.2.length + 2 * l.length by
    have := h l (0, 0, [])
    simpa [stE] using this
  intro l
  induction l with
  | nil => intro s; simp
  | cons x r ih =>
    intro s
    have h1 := ih (stepE s x)
    have h2 := stepE_len s x
    simp only [List.foldl_cons, List.length_cons]
    omega

def finE (s : Nat × Nat × List UInt8) : List UInt8 :=
  if s.2.1 = 0 then s.2.2
  else if s.2.1 = 2 then s.2.2 ++ [letN (s.1 * 16), 61, 61]
  else s.2.2 ++ [letN (s.1 * 4), 61]

theorem sp64 (x y : Nat) : (x * 256 + y) / 64 = x * 4 + y / 64 := by omega
theorem sq64 (x y : Nat) : (x * 256 + y) % 64 = y % 64 := by omega

theorem fin_toL : ∀ (l out : List UInt8), finE (l.foldl stepE (0, 0, out)) = out ++ toL l
  | [], out => by simp [finE, toL]
  | [a], out => by simp [finE, toL, stepE]
  | [a, b], out => by
    have ha := a.toNat_lt
    have hb := b.toNat_lt
    have e1 : (a.toNat % 4 * 256 + b.toNat) / 16 = a.toNat % 4 * 16 + b.toNat / 16 := by omega
    have e2 : (a.toNat % 4 * 256 + b.toNat) % 16 = b.toNat % 16 := by omega
    simp [finE, toL, stepE, e1, e2]
  | a :: b :: c :: r, out => by
    have ha := a.toNat_lt
    have hb := b.toNat_lt
    have hc := c.toNat_lt
    have e1 : (a.toNat % 4 * 256 + b.toNat) / 16 = a.toNat % 4 * 16 + b.toNat / 16 := by omega
    have e2 : (a.toNat % 4 * 256 + b.toNat) % 16 = b.toNat % 16 := by omega
    have e3 : (b.toNat % 16 * 256 + c.toNat) / 64 = b.toNat % 16 * 4 + c.toNat / 64 := sp64 _ _
    have e4 : (b.toNat % 16 * 256 + c.toNat) % 64 = c.toNat % 64 := sq64 _ _
    have ih := fin_toL r (out ++ [letN (a.toNat / 4), letN (a.toNat % 4 * 16 + b.toNat / 16), letN (b.toNat % 16 * 4 + c.toNat / 64), letN (c.toNat % 64)])
    simp [toL, stepE, e1, e2, e3, e4] at ih ⊢
    exact ih

theorem toL_stE (l : List UInt8) : toL l = finE (stE l) := by
  have := fin_toL l []
  simpa [stE] using this.symm

/-! ### Groups of three -/

/-- The letters of one group: 'left' bytes are there, n is what they make. -/
def grpE (n left k : Nat) : UInt8 := if left < k then 61 else letN (n / 2 ^ (18 - 6 * k) % 64)

theorem grpE_no {n left k : Nat} (h : left < k) : grpE n left k = 61 := by simp [grpE, h]
theorem grpE_0 (n left : Nat) : grpE n left 0 = letN (n / 262144 % 64) := by simp [grpE]
theorem grpE_1 (n left : Nat) (h : 1 ≤ left) : grpE n left 1 = letN (n / 4096 % 64) := by simp [grpE, show ¬ left < 1 by omega]
theorem grpE_2 (n left : Nat) (h : 2 ≤ left) : grpE n left 2 = letN (n / 64 % 64) := by simp [grpE, show ¬ left < 2 by omega]
theorem grpE_3 (n left : Nat) (h : 3 ≤ left) : grpE n left 3 = letN (n % 64) := by simp [grpE, show ¬ left < 3 by omega]

theorem grp1 (a : UInt8) : toL [a] = [grpE (a.toNat * 65536) 1 0, grpE (a.toNat * 65536) 1 1, grpE (a.toNat * 65536) 1 2, grpE (a.toNat * 65536) 1 3] := by
  have ha := a.toNat_lt
  have e1 : a.toNat * 65536 / 262144 % 64 = a.toNat / 4 := by omega
  have e2 : a.toNat * 65536 / 4096 % 64 = a.toNat % 4 * 16 := by omega
  rw [grpE_0, grpE_1 _ _ (by omega), grpE_no (by omega), grpE_no (by omega), e1, e2]
  simp [toL]

theorem grp2 (a b : UInt8) : toL [a, b] = [grpE (a.toNat * 65536 + b.toNat * 256) 2 0, grpE (a.toNat * 65536 + b.toNat * 256) 2 1, grpE (a.toNat * 65536 + b.toNat * 256) 2 2, grpE (a.toNat * 65536 + b.toNat * 256) 2 3] := by
  have ha := a.toNat_lt
  have hb := b.toNat_lt
  have e1 : (a.toNat * 65536 + b.toNat * 256) / 262144 % 64 = a.toNat / 4 := by omega
  have e2 : (a.toNat * 65536 + b.toNat * 256) / 4096 % 64 = a.toNat % 4 * 16 + b.toNat / 16 := by omega
  have e3 : (a.toNat * 65536 + b.toNat * 256) / 64 % 64 = b.toNat % 16 * 4 := by omega
  rw [grpE_0, grpE_1 _ _ (by omega), grpE_2 _ _ (by omega), grpE_no (by omega), e1, e2, e3]
  simp [toL]

theorem grp3 (a b c : UInt8) (r : List UInt8) (left : Nat) (hl : 3 ≤ left) : toL (a :: b :: c :: r) = [grpE (a.toNat * 65536 + b.toNat * 256 + c.toNat) left 0, grpE (a.toNat * 65536 + b.toNat * 256 + c.toNat) left 1, grpE (a.toNat * 65536 + b.toNat * 256 + c.toNat) left 2, grpE (a.toNat * 65536 + b.toNat * 256 + c.toNat) left 3] ++ toL r := by
  have ha := a.toNat_lt
  have hb := b.toNat_lt
  have hc := c.toNat_lt
  have e1 : (a.toNat * 65536 + b.toNat * 256 + c.toNat) / 262144 % 64 = a.toNat / 4 := by omega
  have e2 : (a.toNat * 65536 + b.toNat * 256 + c.toNat) / 4096 % 64 = a.toNat % 4 * 16 + b.toNat / 16 := by omega
  have e3 : (a.toNat * 65536 + b.toNat * 256 + c.toNat) / 64 % 64 = b.toNat % 16 * 4 + c.toNat / 64 := by omega
  have e4 : (a.toNat * 65536 + b.toNat * 256 + c.toNat) % 64 = c.toNat % 64 := by omega
  rw [grpE_0, grpE_1 _ _ (by omega), grpE_2 _ _ (by omega), grpE_3 _ _ (by omega), e1, e2, e3, e4]
  simp [toL]

end Go.Proofs.YtgnphekelklchaaDoor
