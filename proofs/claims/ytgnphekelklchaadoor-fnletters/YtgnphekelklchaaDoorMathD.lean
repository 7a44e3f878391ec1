/- Reading letters, over plain lists: the specification's way by groups of four, the program's by bits held; both tell the text of which ToLetters makes it, and no other. -/
import Derived.Test.YtgnphekelklchaaDoorMath
import Derived.Lib.TrimByte
namespace Go.Proofs.YtgnphekelklchaaDoor
set_option linter.unusedVariables false
set_option linter.unusedSimpArgs false

/-! ### By groups of four -/

def stepG (st : Option (Nat × Nat)) (b : UInt8) : Option (Nat × Nat) := match st with
  | none => none
  | some (n, p) => if b = 61 then (if p = 2 then none else some (n * 64, p + 1)) else if valN b < 0 then none else some (n * 64 + (valN b).toNat, p)

def grpD (l : List UInt8) : Option (Nat × Nat) := l.foldl stepG (some (0, 0))

theorem grpD_snoc (l : List UInt8) (b : UInt8) : grpD (l ++ [b]) = stepG (grpD l) b := by simp [grpD]

theorem fold_none (l : List UInt8) : l.foldl stepG none = none := by
  induction l with
  | nil => rfl
  | cons x r ih => exact ih

theorem grpD_none {l : List UInt8} (m n : Nat) (h : grpD (l.take m) = none) (hm : m ≤ n) : grpD (l.take n) = none := by
  have e : l.take n = l.take m ++ (l.take n).drop m := by
    have := List.take_append_drop m (l.take n)
    rw [List.take_take, Nat.min_eq_left hm] at this
    exact this.symm
  rw [e]
  unfold grpD at h ⊢
  rw [List.foldl_append, h]
  exact fold_none _

def bytes3 (n p : Nat) : List UInt8 := [UInt8.ofNat (n / 65536), UInt8.ofNat (n / 256 % 256), UInt8.ofNat (n % 256)].take (3 - p)

def parseL : List UInt8 → Option (List UInt8)
  | [] => some []
  | a :: b :: c :: d :: r => match grpD [a, b, c, d] with
    | none => none
    | some (n, p) => (parseL r).map (bytes3 n p ++ ·)
  | _ => none

theorem stepG_let (n p v : Nat) (h : v < 64) : stepG (some (n, p)) (letN v) = some (n * 64 + v, p) := by
  have e := val_let' v h
  simp only [stepG, if_neg (let_ne' v h), e]
  rw [if_neg (by omega)]
  simp

theorem stepG_fill (n p : Nat) (h : ¬ p = 2) : stepG (some (n, p)) 61 = some (n * 64, p + 1) := by simp [stepG, h]

theorem ofNat_of (x : UInt8) (n : Nat) (h : n = x.toNat) : UInt8.ofNat n = x := by rw [h]; exact UInt8.ofNat_toNat

theorem join3 (a b c : Nat) : (((a / 4 * 64 + (a % 4 * 16 + b / 16)) * 64) + (b % 16 * 4 + c / 64)) * 64 + c % 64 = a * 65536 + b * 256 + c := by
  have h1 : a / 4 * 64 + a % 4 * 16 = a * 16 := by omega
  have h2 : b / 16 * 64 + b % 16 * 4 = b * 4 := by omega
  have h3 : c / 64 * 64 + c % 64 = c := by omega
  have e1 : a / 4 * 64 + (a % 4 * 16 + b / 16) = a * 16 + b / 16 := by omega
  rw [e1]
  have e2 : (a * 16 + b / 16) * 64 + (b % 16 * 4 + c / 64) = a * 1024 + b * 4 + c / 64 := by omega
  rw [e2]
  omega

theorem jA (a b : Nat) (ha : a < 2 ^ 8) (hb : b < 2 ^ 8) : (a / 4 * 64 + (a % 4 * 16 + b / 16)) / 16 = a := by omega
theorem jB (a b c : Nat) (ha : a < 2 ^ 8) (hb : b < 2 ^ 8) (hc : c < 2 ^ 8) : ((a / 4 * 64 + (a % 4 * 16 + b / 16)) % 16 * 64 + (b % 16 * 4 + c / 64)) / 4 = b := by
  have e : (a / 4 * 64 + (a % 4 * 16 + b / 16)) % 16 = b / 16 := by omega
  rw [e]
  omega
theorem jC (a b c : Nat) : ((a / 4 * 64 + (a % 4 * 16 + b / 16)) % 16 * 64 + (b % 16 * 4 + c / 64)) % 4 * 64 + c % 64 = c % 256 := by
  have e : ((a / 4 * 64 + (a % 4 * 16 + b / 16)) % 16 * 64 + (b % 16 * 4 + c / 64)) % 4 = c / 64 % 4 := by omega
  rw [e]
  omega

theorem parse_toL : ∀ l : List UInt8, parseL (toL l) = some l
  | [] => rfl
  | [a] => by
    have ha := a.toNat_lt
    have g : grpD [letN (a.toNat / 4), letN (a.toNat % 4 * 16), 61, 61] = some (((a.toNat / 4 * 64 + a.toNat % 4 * 16) * 64) * 64, 2) := by
      show stepG (stepG (stepG (stepG (some (0, 0)) _) _) _) _ = _
      rw [stepG_let _ _ _ (by omega), stepG_let _ _ _ (by omega), stepG_fill _ _ (by omega), stepG_fill _ _ (by omega)]
      simp
    have e1 : ((a.toNat / 4 * 64 + a.toNat % 4 * 16) * 64) * 64 / 65536 = a.toNat := by omega
    simp only [toL, parseL, g, Option.map_some, bytes3]
    simp only [Nat.reduceSub, List.take_succ_cons, List.take_zero, List.append_nil]
    rw [ofNat_of a _ e1]
  | [a, b] => by
    have ha := a.toNat_lt
    have hb := b.toNat_lt
    have g : grpD [letN (a.toNat / 4), letN (a.toNat % 4 * 16 + b.toNat / 16), letN (b.toNat % 16 * 4), 61] = some ((((a.toNat / 4 * 64 + (a.toNat % 4 * 16 + b.toNat / 16)) * 64) + b.toNat % 16 * 4) * 64, 1) := by
      show stepG (stepG (stepG (stepG (some (0, 0)) _) _) _) _ = _
      rw [stepG_let _ _ _ (by omega), stepG_let _ _ _ (by omega), stepG_let _ _ _ (by omega), stepG_fill _ _ (by omega)]
      simp
    have e1 : (((a.toNat / 4 * 64 + (a.toNat % 4 * 16 + b.toNat / 16)) * 64) + b.toNat % 16 * 4) * 64 / 65536 = a.toNat := by omega
    have e2 : (((a.toNat / 4 * 64 + (a.toNat % 4 * 16 + b.toNat / 16)) * 64) + b.toNat % 16 * 4) * 64 / 256 % 256 = b.toNat := by omega
    simp only [toL, parseL, g, Option.map_some, bytes3]
    simp only [Nat.reduceSub, List.take_succ_cons, List.take_zero, List.append_nil]
    rw [ofNat_of a _ e1, ofNat_of b _ e2]
  | a :: b :: c :: r => by
    have ha := a.toNat_lt
    have hb := b.toNat_lt
    have hc := c.toNat_lt
    have g : grpD [letN (a.toNat / 4), letN (a.toNat % 4 * 16 + b.toNat / 16), letN (b.toNat % 16 * 4 + c.toNat / 64), letN (c.toNat % 64)] = some ((((a.toNat / 4 * 64 + (a.toNat % 4 * 16 + b.toNat / 16)) * 64) + (b.toNat % 16 * 4 + c.toNat / 64)) * 64 + c.toNat % 64, 0) := by
      show stepG (stepG (stepG (stepG (some (0, 0)) _) _) _) _ = _
      rw [stepG_let _ _ _ (by omega), stepG_let _ _ _ (by omega), stepG_let _ _ _ (by omega), stepG_let _ _ _ (by omega)]
      simp
    have e0 : (((a.toNat / 4 * 64 + (a.toNat % 4 * 16 + b.toNat / 16)) * 64) + (b.toNat % 16 * 4 + c.toNat / 64)) * 64 + c.toNat % 64 = a.toNat * 65536 + b.toNat * 256 + c.toNat := join3 _ _ _
    rw [e0] at g
    have e1 : (a.toNat * 65536 + b.toNat * 256 + c.toNat) / 65536 = a.toNat := by omega
    have e2 : (a.toNat * 65536 + b.toNat * 256 + c.toNat) / 256 % 256 = b.toNat := by omega
    have e3 : (a.toNat * 65536 + b.toNat * 256 + c.toNat) % 256 = c.toNat := by omega
    simp only [toL, parseL, g, parse_toL r, Option.map_some, bytes3]
    simp only [Nat.reduceSub, List.take_succ_cons, List.take_zero, Nat.sub_zero]
    rw [ofNat_of a _ e1, ofNat_of b _ e2, ofNat_of c _ e3]
    rfl

/-- The text of which ToLetters makes it, if there is one. -/
def fromL (s : List UInt8) : Option (List UInt8) := match parseL s with
  | some x => if toL x = s then some x else none
  | none => none

theorem fromL_iff (s x : List UInt8) : fromL s = some x ↔ toL x = s := by
  constructor
  · intro h
    unfold fromL at h
    split at h
    · split at h
      · rename_i h1
        cases h
        exact h1
      · cases h
    · cases h
  · intro h
    unfold fromL
    rw [← h, parse_toL]
    simp

/-! ### By bits held -/

def stepD (s : Nat × Nat × List UInt8) (v : Nat) : Nat × Nat × List UInt8 :=
  if s.2.1 = 0 then (v, 6, s.2.2)
  else if s.2.1 = 6 then ((s.1 * 64 + v) % 16, 4, s.2.2 ++ [UInt8.ofNat ((s.1 * 64 + v) / 16)])
  else if s.2.1 = 4 then ((s.1 * 64 + v) % 4, 2, s.2.2 ++ [UInt8.ofNat ((s.1 * 64 + v) / 4)])
  else (0, 0, s.2.2 ++ [UInt8.ofNat (s.1 * 64 + v)])

def stepW (s : Nat × Nat × List UInt8) (b : UInt8) : Nat × Nat × List UInt8 := stepD s (valN b).toNat

def stD (l : List UInt8) : Nat × Nat × List UInt8 := l.foldl stepW (0, 0, [])

theorem stD_snoc (l : List UInt8) (x : UInt8) : stD (l ++ [x]) = stepD (stD l) (valN x).toNat := by simp [stD, stepW]

def okW (s : Nat × Nat × List UInt8) : Prop := (s.2.1 = 0 ∧ s.1 = 0) ∨ (s.2.1 = 6 ∧ s.1 < 64) ∨ (s.2.1 = 4 ∧ s.1 < 16) ∨ (s.2.1 = 2 ∧ s.1 < 4)

theorem stepD_ok {s : Nat × Nat × List UInt8} (h : okW s) (v : Nat) (hv : v < 64) : okW (stepD s v) := by
  obtain ⟨hh, c, out⟩ := s
  rcases h with ⟨h1, h2⟩ | ⟨h1, h2⟩ | ⟨h1, h2⟩ | ⟨h1, h2⟩ <;> simp only at h1 h2 <;> subst h1
  · exact .inr (.inl ⟨rfl, hv⟩)
  · exact .inr (.inr (.inl ⟨rfl, by simp [stepD]; omega⟩))
  · exact .inr (.inr (.inr ⟨rfl, by simp [stepD]; omega⟩))
  · exact .inl ⟨rfl, rfl⟩

theorem valN_lt (b : UInt8) : (valN b).toNat < 64 := by have := val_lt b; omega

theorem stD_ok (l : List UInt8) : okW (stD l) := by
  suffices h : ∀ (l : List UInt8) (s : Nat × Nat × List UInt8), okW s → okW (l.foldl stepW s) from h l _ (.inl ⟨rfl, rfl⟩)
  intro l
  induction l with
  | nil => intro s h; exact h
  | cons x r ih => intro s h; exact ih _ (stepD_ok h _ (valN_lt x))

theorem stepD_len (s : Nat × Nat × List UInt8) (v : Nat) : (stepD s v).2.2.length ≤ s.2.2.length + 1 := by
  unfold stepD
  split
  · simp
  · split
    · simp
    · split <;> simp

theorem stD_len (l : List UInt8) : (stD l).2.2.length ≤ l.length := by
  suffices h : ∀ (l : List UInt8) (s : Nat × Nat × List UInt8), (l.foldl stepW s).2.2.length ≤ s.2.2.length + l.length by
    have := h l (0, 0, [])
    simpa [stD] using this
  intro l
  induction l with
  | nil => intro s; simp
  | cons x r ih =>
    intro s
    have h1 := ih (stepW s x)
    have h2 := stepD_len s (valN x).toNat
    simp only [List.foldl_cons, List.length_cons]
    unfold stepW at h1
    unfold stepW
    omega

/-- Is each byte a letter? -/
def allL (l : List UInt8) : Bool := l.all fun b => decide (0 ≤ valN b)

theorem allL_snoc (l : List UInt8) (b : UInt8) : allL (l ++ [b]) = (allL l && decide (0 ≤ valN b)) := by simp [allL]

theorem allL_no {l pre : List UInt8} {b : UInt8} (hp : (pre ++ [b]) <+: l) (hb : valN b < 0) : allL l = false := by
  obtain ⟨r, rfl⟩ := hp
  unfold allL
  simp only [List.all_append, List.all_cons, List.all_nil]
  rw [decide_eq_false (by omega)]
  simp

def wholeL (l : List UInt8) : Option (List UInt8) := if allL l then some (stD l).2.2 else none

/-- The letters alone, and the fillers behind them. -/
def lets : List UInt8 → List UInt8
  | [] => []
  | [a] => [letN (a.toNat / 4), letN (a.toNat % 4 * 16)]
  | [a, b] => [letN (a.toNat / 4), letN (a.toNat % 4 * 16 + b.toNat / 16), letN (b.toNat % 16 * 4)]
  | a :: b :: c :: r => letN (a.toNat / 4) :: letN (a.toNat % 4 * 16 + b.toNat / 16) :: letN (b.toNat % 16 * 4 + c.toNat / 64) :: letN (c.toNat % 64) :: lets r

def fills : List UInt8 → List UInt8
  | [] => []
  | [_] => [61, 61]
  | [_, _] => [61]
  | _ :: _ :: _ :: r => fills r

theorem toL_split : ∀ l : List UInt8, toL l = lets l ++ fills l
  | [] => rfl
  | [_] => rfl
  | [_, _] => by simp [toL, lets, fills]
  | a :: b :: c :: r => by simp [toL, lets, fills, toL_split r]

theorem fills_all : ∀ l : List UInt8, ∀ b ∈ fills l, b = 61
  | [] => by simp [fills]
  | [_] => by simp [fills]
  | [_, _] => by simp [fills]
  | a :: b :: c :: r => by simp only [fills]; exact fills_all r

theorem lets_all : ∀ l : List UInt8, ∀ b ∈ lets l, ∃ v, v < 64 ∧ b = letN v
  | [] => by simp [lets]
  | [a] => by
    have ha := a.toNat_lt
    intro x hx
    simp only [lets, List.mem_cons, List.not_mem_nil, or_false] at hx
    rcases hx with rfl | rfl
    · exact ⟨_, by omega, rfl⟩
    · exact ⟨_, by omega, rfl⟩
  | [a, b] => by
    have ha := a.toNat_lt
    have hb := b.toNat_lt
    intro x hx
    simp only [lets, List.mem_cons, List.not_mem_nil, or_false] at hx
    rcases hx with rfl | rfl | rfl
    · exact ⟨_, by omega, rfl⟩
    · exact ⟨_, by omega, rfl⟩
    · exact ⟨_, by omega, rfl⟩
  | a :: b :: c :: r => by
    have ha := a.toNat_lt
    have hb := b.toNat_lt
    have hc := c.toNat_lt
    intro x hx
    simp only [lets, List.mem_cons] at hx
    rcases hx with rfl | rfl | rfl | rfl | hx
    · exact ⟨_, by omega, rfl⟩
    · exact ⟨_, by omega, rfl⟩
    · exact ⟨_, by omega, rfl⟩
    · exact ⟨_, by omega, rfl⟩
    · exact lets_all r x hx

theorem dropWhile_all {p : UInt8 → Bool} : ∀ (a b : List UInt8), (∀ x ∈ a, p x = true) → (∀ x ∈ b, p x = false) → (a ++ b).dropWhile p = b
  | [], [], _, _ => rfl
  | [], x :: r, _, h => by simp [List.dropWhile, h x (by simp)]
  | x :: r, b, h, h2 => by
    simp only [List.cons_append, List.dropWhile, h x (by simp)]
    exact dropWhile_all r b (fun y hy => h y (by simp [hy])) h2

theorem trim_toL (l : List UInt8) : Lib.trimRightB (toL l) 61 = lets l := by
  unfold Lib.trimRightB
  rw [toL_split, List.reverse_append, dropWhile_all, List.reverse_reverse]
  · intro x hx
    simp [fills_all l x (by simpa using hx)]
  · intro x hx
    obtain ⟨v, hv, rfl⟩ := lets_all l x (by simpa using hx)
    simpa using let_ne' v hv

theorem lets_letters (l : List UInt8) : allL (lets l) = true := by
  unfold allL
  rw [List.all_eq_true]
  intro x hx
  obtain ⟨v, hv, rfl⟩ := lets_all l x hx
  rw [val_let' v hv]
  simp

theorem stepW_let (s : Nat × Nat × List UInt8) (v : Nat) (h : v < 64) : stepW s (letN v) = stepD s v := by
  unfold stepW
  rw [val_let' v h]
  simp

theorem stD_lets : ∀ (l out : List UInt8), ((lets l).foldl stepW (0, 0, out)).2.2 = out ++ l
  | [], out => by simp [lets]
  | [a], out => by
    have ha := a.toNat_lt
    simp only [lets, List.foldl_cons, List.foldl_nil]
    rw [stepW_let _ _ (by omega), stepW_let _ _ (by omega)]
    simp only [stepD]
    simp
    exact ofNat_of a _ (by omega)
  | [a, b], out => by
    have ha := a.toNat_lt
    have hb := b.toNat_lt
    simp only [lets, List.foldl_cons, List.foldl_nil]
    rw [stepW_let _ _ (by omega), stepW_let _ _ (by omega), stepW_let _ _ (by omega)]
    simp only [stepD]
    simp
    exact ⟨ofNat_of a _ (by omega), ofNat_of b _ (by omega)⟩
  | a :: b :: c :: r, out => by
    have ha := a.toNat_lt
    have hb := b.toNat_lt
    have hc := c.toNat_lt
    simp only [lets, List.foldl_cons]
    rw [stepW_let _ _ (by omega), stepW_let _ _ (by omega), stepW_let _ _ (by omega), stepW_let _ _ (by omega)]
    have e : stepD (stepD (stepD (stepD (0, 0, out) (a.toNat / 4)) (a.toNat % 4 * 16 + b.toNat / 16)) (b.toNat % 16 * 4 + c.toNat / 64)) (c.toNat % 64) = (0, 0, out ++ [a, b, c]) := by
      simp only [stepD]
      simp [-UInt8.ofNat_add, -UInt8.ofNat_mul]
      exact ⟨ofNat_of a _ (jA _ _ ha hb), ofNat_of b _ (jB _ _ _ ha hb hc), ofNat_of c _ ((jC _ _ _).trans (Nat.mod_eq_of_lt hc))⟩
    rw [e, stD_lets r]
    simp

theorem whole_toL (l : List UInt8) : wholeL (Lib.trimRightB (toL l) 61) = some l := by
  rw [trim_toL]
  unfold wholeL
  rw [lets_letters]
  have := stD_lets l []
  simp only [if_true]
  unfold stD
  rw [this]
  simp

/-- The program's own way. -/
def implL (s : List UInt8) : Option (List UInt8) := match wholeL (Lib.trimRightB s 61) with
  | some x => if toL x = s then some x else none
  | none => none

theorem implL_iff (s x : List UInt8) : implL s = some x ↔ toL x = s := by
  constructor
  · intro h
    unfold implL at h
    split at h
    · split at h
      · rename_i h1
        cases h
        exact h1
      · cases h
    · cases h
  · intro h
    unfold implL
    rw [← h, whole_toL]
    simp

theorem implL_eq (s : List UInt8) : implL s = fromL s := by
  apply Option.ext
  intro x
  exact (implL_iff s x).trans (fromL_iff s x).symm

end Go.Proofs.YtgnphekelklchaaDoor
