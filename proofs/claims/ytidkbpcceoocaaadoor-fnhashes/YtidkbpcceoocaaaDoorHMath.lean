/- Plain mathematics of the hash of a text: bounds, and that one byte changed is another number. -/
import Derived.Test.YtidkbpcceoocaaaDoorRows
namespace Go.Proofs.YtidkbpcceoocaaaDoor

def hstep (h : Nat) (c : UInt8) : Nat := (1000003 * h + c.toNat + 1) % 2147483647

/-- The hash of a text's bytes. -/
def hsL (l : List UInt8) : Nat := l.foldl hstep 29

theorem hstep_lt (h : Nat) (c : UInt8) : hstep h c < 2147483647 := Nat.mod_lt _ (by decide)

theorem fold_hs_lt : ∀ (l : List UInt8) (h : Nat), h < 2147483647 → l.foldl hstep h < 2147483647
  | [], _, h => h
  | c :: l, h, _ => fold_hs_lt l _ (hstep_lt h c)

theorem hsL_lt (l : List UInt8) : hsL l < 2147483647 := fold_hs_lt l 29 (by decide)

theorem hsL_snoc (l : List UInt8) (c : UInt8) : hsL (l ++ [c]) = hstep (hsL l) c := by
  unfold hsL
  rw [List.foldl_append]
  rfl

theorem mul_zero_of {d z : Int} (h : 1000003 * d = 2147483647 * z) : ∃ t, d = 2147483647 * t := by
  refine ⟨1523789695 * z - 709572 * d, ?_⟩
  have h1 : 1523789695 * (1000003 * d) = 1523789695 * (2147483647 * z) := by rw [h]
  omega

theorem mod_eq_sub {m n p : Nat} (h : m % p = n % p) : ∃ z : Int, (m : Int) - (n : Int) = (p : Int) * z := by
  have e1 := Nat.div_add_mod m p
  have e2 := Nat.div_add_mod n p
  rw [h] at e1
  refine ⟨((m / p : Nat) : Int) - ((n / p : Nat) : Int), ?_⟩
  rw [Int.mul_sub]
  have f1 : (p : Int) * ((m / p : Nat) : Int) = ((p * (m / p) : Nat) : Int) := by simp
  have f2 : (p : Int) * ((n / p : Nat) : Int) = ((p * (n / p) : Nat) : Int) := by simp
  rw [f1, f2]
  omega

theorem hstep_lin {x y z a b c : Int} (hx : x = 1000003 * a + c + 1) (hy : y = 1000003 * b + c + 1) (hz : x - y = 2147483647 * z) : 1000003 * (a - b) = 2147483647 * z := by omega

theorem small_zero {a b : Nat} {t : Int} (ha : a < 2147483647) (hb : b < 2147483647) (h : (a : Int) - (b : Int) = 2147483647 * t) : a = b := by omega

theorem hstep_inj {a b : Nat} (c : UInt8) (ha : a < 2147483647) (hb : b < 2147483647) (h : a ≠ b) : hstep a c ≠ hstep b c := by
  intro e
  simp only [hstep] at e
  apply h
  obtain ⟨z, hz⟩ := mod_eq_sub e
  obtain ⟨t, ht⟩ := mul_zero_of (hstep_lin (by simp only [Int.natCast_add, Int.natCast_mul]; rfl) (by simp only [Int.natCast_add, Int.natCast_mul]; rfl) hz)
  exact small_zero ha hb ht

theorem hstep_byte {a : Nat} {c d : UInt8} (h : c ≠ d) : hstep a c ≠ hstep a d := by
  unfold hstep
  have h1 := c.toNat_lt
  have h2 := d.toNat_lt
  have h3 : c.toNat ≠ d.toNat := fun e => h (UInt8.toNat_inj.1 e)
  omega

theorem fold_hs_ne : ∀ (l : List UInt8) (a b : Nat), a < 2147483647 → b < 2147483647 → a ≠ b → l.foldl hstep a ≠ l.foldl hstep b
  | [], _, _, _, _, h => h
  | c :: l, a, b, ha, hb, h => fold_hs_ne l _ _ (hstep_lt a c) (hstep_lt b c) (hstep_inj c ha hb h)

/-- One byte changed is another hash. -/
theorem hsL_set (l : List UInt8) (i : Nat) (x : UInt8) (hi : i < l.length) (h : l[i] ≠ x) : hsL (l.set i x) ≠ hsL l := by
  have e1 : l.set i x = l.take i ++ x :: l.drop (i + 1) := by rw [List.set_eq_take_append_cons_drop, if_pos hi]
  have e2 : l = l.take i ++ l[i] :: l.drop (i + 1) := by rw [List.getElem_cons_drop, List.take_append_drop]
  intro e
  rw [e1] at e
  conv at e => rhs; rw [e2]
  unfold hsL at e
  rw [List.foldl_append, List.foldl_append, List.foldl_cons, List.foldl_cons] at e
  exact fold_hs_ne _ _ _ (hstep_lt _ _) (hstep_lt _ _) (hstep_byte (Ne.symm h)) e

end Go.Proofs.YtidkbpcceoocaaaDoor
