/- Bits of numbers that are small: the or of parts that don't meet is their sum, a mask of low bits is a rest. -/
import Derived.Test.YtgnphekelklchaaDoorRows
import Derived.WalkKit
namespace Go.Proofs.YtgnphekelklchaaDoor
open Go.RowKit

theorem wrap_in (x : Nat) (h : x < 9223372036854775808) : wrap64 (x : Int) = x := by
  unfold wrap64
  omega

theorem ofInt_nat (n : Nat) (x : Nat) (h : x < 2 ^ n) : (BitVec.ofInt n (x : Int)).toNat = x := by
  rw [BitVec.ofInt_natCast, BitVec.toNat_ofNat, Nat.mod_eq_of_lt h]

theorem or64 (x y : Nat) (hx : x < 9223372036854775808) (hy : y < 9223372036854775808) (h : x ||| y < 9223372036854775808) : bits BinOp.or IntKind.i64 (x : Int) (y : Int) = ((x ||| y : Nat) : Int) := by
  have e : bits BinOp.or IntKind.i64 (x : Int) (y : Int) = IntKind.i64.wrap ((BitVec.ofInt 64 (x : Int) ||| BitVec.ofInt 64 (y : Int)).toNat : Int) := rfl
  rw [e, BitVec.toNat_or, ofInt_nat 64 x (by omega), ofInt_nat 64 y (by omega)]
  exact IntWalk.i64_in _ (by omega)

theorem lor_low (k x y : Nat) (hy : y < 2 ^ k) : 2 ^ k * x ||| y = 2 ^ k * x + y := (Nat.two_pow_add_eq_or_of_lt hy x).symm

theorem or64_add (k x y : Nat) (hy : y < 2 ^ k) (h : 2 ^ k * x + y < 9223372036854775808) : bits BinOp.or IntKind.i64 ((2 ^ k * x : Nat) : Int) (y : Int) = ((2 ^ k * x + y : Nat) : Int) := by
  rw [or64 _ _ (by omega) (by omega) (by rw [lor_low k x y hy]; exact h), lor_low k x y hy]

theorem and63 (x : Nat) (h : x < 9223372036854775808) : bits BinOp.and IntKind.i64 (x : Int) 63 = ((x % 64 : Nat) : Int) := by
  have e : bits BinOp.and IntKind.i64 (x : Int) 63 = IntKind.i64.wrap ((BitVec.ofInt 64 (x : Int) &&& BitVec.ofInt 64 63).toNat : Int) := rfl
  have h63 : (BitVec.ofInt 64 63).toNat = 2 ^ 6 - 1 := by decide
  rw [e, BitVec.toNat_and, ofInt_nat 64 x (by omega), h63, Nat.and_two_pow_sub_one_eq_mod]
  exact IntWalk.i64_in _ (by omega)

theorem u32_in (x : Nat) (h : x < 4294967296) : IntKind.u32.wrap (x : Int) = x := by
  simp [IntKind.wrap, IntKind.bits, IntKind.signed]
  omega

theorem wrapA (a : UInt8) : wrap64 (a.toNat : Int) = (a.toNat : Int) := wrap_in _ (by have := a.toNat_lt; omega)
theorem wrapA16 (a : UInt8) : wrap64 ((a.toNat : Int) * 65536) = (a.toNat : Int) * 65536 := by
  have := a.toNat_lt
  unfold wrap64
  omega
theorem wrapA8 (a : UInt8) : wrap64 ((a.toNat : Int) * 256) = (a.toNat : Int) * 256 := by
  have := a.toNat_lt
  unfold wrap64
  omega
theorem orAB (a b : UInt8) : bits BinOp.or IntKind.i64 ((a.toNat : Int) * 65536) ((b.toNat : Int) * 256) = (a.toNat : Int) * 65536 + (b.toNat : Int) * 256 := by
  have := a.toNat_lt
  have := b.toNat_lt
  have e := or64_add 16 a.toNat (b.toNat * 256) (by omega) (by omega)
  rw [show ((2 ^ 16 * a.toNat : Nat) : Int) = (a.toNat : Int) * 65536 by omega, show ((b.toNat * 256 : Nat) : Int) = (b.toNat : Int) * 256 by omega] at e
  rw [e]
  omega
theorem orABC (a b c : UInt8) : bits BinOp.or IntKind.i64 ((a.toNat : Int) * 65536 + (b.toNat : Int) * 256) (c.toNat : Int) = ((a.toNat * 65536 + b.toNat * 256 + c.toNat : Nat) : Int) := by
  have := a.toNat_lt
  have := b.toNat_lt
  have := c.toNat_lt
  have e := or64_add 8 (a.toNat * 256 + b.toNat) c.toNat (by omega) (by omega)
  rw [show ((2 ^ 8 * (a.toNat * 256 + b.toNat) : Nat) : Int) = (a.toNat : Int) * 65536 + (b.toNat : Int) * 256 by omega] at e
  rw [e]
  omega
theorem n24 (a b c : UInt8) : a.toNat * 65536 + b.toNat * 256 + c.toNat < 16777216 := by
  have := a.toNat_lt
  have := b.toNat_lt
  have := c.toNat_lt
  omega

theorem or32 (x y : Nat) (hx : x < 4294967296) (hy : y < 4294967296) (h : x ||| y < 4294967296) : bits BinOp.or IntKind.u32 (x : Int) (y : Int) = ((x ||| y : Nat) : Int) := by
  have e : bits BinOp.or IntKind.u32 (x : Int) (y : Int) = IntKind.u32.wrap ((BitVec.ofInt 32 (x : Int) ||| BitVec.ofInt 32 (y : Int)).toNat : Int) := rfl
  rw [e, BitVec.toNat_or, ofInt_nat 32 x (by omega), ofInt_nat 32 y (by omega)]
  exact u32_in _ h

theorem or32_add (k x y : Nat) (hy : y < 2 ^ k) (h : 2 ^ k * x + y < 4294967296) : bits BinOp.or IntKind.u32 ((2 ^ k * x : Nat) : Int) (y : Int) = ((2 ^ k * x + y : Nat) : Int) := by
  rw [or32 _ _ (by omega) (by omega) (by rw [lor_low k x y hy]; exact h), lor_low k x y hy]

theorem and32 (k x : Nat) (h : x < 4294967296) (hk : k ≤ 31) : bits BinOp.and IntKind.u32 (x : Int) ((2 ^ k - 1 : Nat) : Int) = ((x % 2 ^ k : Nat) : Int) := by
  have e : bits BinOp.and IntKind.u32 (x : Int) ((2 ^ k - 1 : Nat) : Int) = IntKind.u32.wrap ((BitVec.ofInt 32 (x : Int) &&& BitVec.ofInt 32 ((2 ^ k - 1 : Nat) : Int)).toNat : Int) := rfl
  have hp : 2 ^ k < 2 ^ 32 := Nat.pow_lt_pow_right (by omega) (by omega)
  rw [e, BitVec.toNat_and, ofInt_nat 32 x (by omega), ofInt_nat 32 _ (by omega), Nat.and_two_pow_sub_one_eq_mod]
  exact u32_in _ (Nat.lt_of_le_of_lt (Nat.mod_le _ _) h)

end Go.Proofs.YtgnphekelklchaaDoor
