/- Contracts of LetterOf and ValueOf, of the program and of the specification: the letter of a number, the number of a letter. Bits of numbers that are small: the or of parts that don't meet is their sum, a mask of low bits is a rest. -/
import Derived.Test.YtcjeodgfpnecgaaRows
import Derived.Test.YtcjeodgfpnecgaaM32
import Derived.Test.YtcjeodgfpnecgaaM1
import Derived.WalkKit
import Derived.Lib.Bytealg
import Derived.Laws.Externs
namespace Go.Proofs.Ytcjeodgfpnecgaa
open Go.RowKit
set_option linter.unusedVariables false
set_option linter.unusedSimpArgs false

def letOf (n : Int) : List UInt8 := if 0 ≤ n ∧ n ≤ 63 then [letN n.toNat] else []

/-- The n of which the letter is made; -1 of none. -/
def valOf (l : List UInt8) : Int := match l with
  | [b] => valN b
  | _ => -1

theorem cIn (x lo hi : Int) (w : World) :
    Calls Try.prog 29 #[.int .i64 x, .int .i64 lo, .int .i64 hi] w fun e w' => e = .returned (.bool (decide (lo ≤ x ∧ x ≤ hi))) ∧ w' = w := by
  go_enter Try.func29, Try.ntmps29
  go_wp2
  all_goals go_ret
  all_goals exact ⟨by congr 2; simp; try omega, rfl⟩

theorem alpha_ext (k : Nat) (h : k < 64) : (⟨#[65, 66, 67, 68, 69, 70, 71, 72, 73, 74, 75, 76, 77, 78, 79, 80, 81, 82, 83, 84, 85, 86, 87, 88, 89, 90, 97, 98, 99, 100, 101, 102, 103, 104, 105, 106, 107, 108, 109, 110, 111, 112, 113, 114, 115, 116, 117, 118, 119, 120, 121, 122, 48, 49, 50, 51, 52, 53, 54, 55, 56, 57, 43, 47]⟩ : ByteArray).extract k (k + 1) = ⟨#[letN k]⟩ := by
  have : ∀ k : Fin 64, ((⟨#[65, 66, 67, 68, 69, 70, 71, 72, 73, 74, 75, 76, 77, 78, 79, 80, 81, 82, 83, 84, 85, 86, 87, 88, 89, 90, 97, 98, 99, 100, 101, 102, 103, 104, 105, 106, 107, 108, 109, 110, 111, 112, 113, 114, 115, 116, 117, 118, 119, 120, 121, 122, 48, 49, 50, 51, 52, 53, 54, 55, 56, 57, 43, 47]⟩ : ByteArray).extract k.val (k.val + 1)).data.toList = [letN k.val] := by decide +kernel
  apply ByteArray.ext
  apply Array.toList_inj.1
  exact this ⟨k, h⟩

theorem alpha_slice (k : Nat) (h : k < 64) (W : World) : (Instr.slice 9 (.string (⟨#[65, 66, 67, 68, 69, 70, 71, 72, 73, 74, 75, 76, 77, 78, 79, 80, 81, 82, 83, 84, 85, 86, 87, 88, 89, 90, 97, 98, 99, 100, 101, 102, 103, 104, 105, 106, 107, 108, 109, 110, 111, 112, 113, 114, 115, 116, 117, 118, 119, 120, 121, 122, 48, 49, 50, 51, 52, 53, 54, 55, 56, 57, 43, 47]⟩ : ByteArray)) (some (.int .i64 k)) (some (.int .i64 ((k : Int) + 1))) none).run Try.prog W = .ok (.string ⟨#[letN k]⟩) W := by
  have hs : (⟨#[65, 66, 67, 68, 69, 70, 71, 72, 73, 74, 75, 76, 77, 78, 79, 80, 81, 82, 83, 84, 85, 86, 87, 88, 89, 90, 97, 98, 99, 100, 101, 102, 103, 104, 105, 106, 107, 108, 109, 110, 111, 112, 113, 114, 115, 116, 117, 118, 119, 120, 121, 122, 48, 49, 50, 51, 52, 53, 54, 55, 56, 57, 43, 47]⟩ : ByteArray).size = 64 := by decide
  have := run_slice_string (P := Try.prog) W 9 (⟨#[65, 66, 67, 68, 69, 70, 71, 72, 73, 74, 75, 76, 77, 78, 79, 80, 81, 82, 83, 84, 85, 86, 87, 88, 89, 90, 97, 98, 99, 100, 101, 102, 103, 104, 105, 106, 107, 108, 109, 110, 111, 112, 113, 114, 115, 116, 117, 118, 119, 120, 121, 122, 48, 49, 50, 51, 52, 53, 54, 55, 56, 57, 43, 47]⟩ : ByteArray) .i64 .i64 (k : Int) ((k : Int) + 1) Try.underlying9 (by omega) (by omega) (by rw [hs]; omega)
  rw [this, ← alpha_ext k h]
  congr 3

theorem alpha_index (k : Nat) (h : k < 64) (q : IntKind) (W : World) : (Instr.index 9 (.string (⟨#[65, 66, 67, 68, 69, 70, 71, 72, 73, 74, 75, 76, 77, 78, 79, 80, 81, 82, 83, 84, 85, 86, 87, 88, 89, 90, 97, 98, 99, 100, 101, 102, 103, 104, 105, 106, 107, 108, 109, 110, 111, 112, 113, 114, 115, 116, 117, 118, 119, 120, 121, 122, 48, 49, 50, 51, 52, 53, 54, 55, 56, 57, 43, 47]⟩ : ByteArray)) (.int q k)).run Try.prog W = .ok (.int .u8 (letN k).toNat) W := by
  have hs : (⟨#[65, 66, 67, 68, 69, 70, 71, 72, 73, 74, 75, 76, 77, 78, 79, 80, 81, 82, 83, 84, 85, 86, 87, 88, 89, 90, 97, 98, 99, 100, 101, 102, 103, 104, 105, 106, 107, 108, 109, 110, 111, 112, 113, 114, 115, 116, 117, 118, 119, 120, 121, 122, 48, 49, 50, 51, 52, 53, 54, 55, 56, 57, 43, 47]⟩ : ByteArray).size = 64 := by decide
  have ha : ∀ k : Fin 64, (⟨#[65, 66, 67, 68, 69, 70, 71, 72, 73, 74, 75, 76, 77, 78, 79, 80, 81, 82, 83, 84, 85, 86, 87, 88, 89, 90, 97, 98, 99, 100, 101, 102, 103, 104, 105, 106, 107, 108, 109, 110, 111, 112, 113, 114, 115, 116, 117, 118, 119, 120, 121, 122, 48, 49, 50, 51, 52, 53, 54, 55, 56, 57, 43, 47]⟩ : ByteArray).data.toList.getD k.val 0 = letN k.val := by decide +kernel
  rw [run_index_string W 9 (⟨#[65, 66, 67, 68, 69, 70, 71, 72, 73, 74, 75, 76, 77, 78, 79, 80, 81, 82, 83, 84, 85, 86, 87, 88, 89, 90, 97, 98, 99, 100, 101, 102, 103, 104, 105, 106, 107, 108, 109, 110, 111, 112, 113, 114, 115, 116, 117, 118, 119, 120, 121, 122, 48, 49, 50, 51, 52, 53, 54, 55, 56, 57, 43, 47]⟩ : ByteArray) q (k : Int) Try.underlying9, dif_pos ⟨by omega, by rw [hs]; omega⟩]
  have := ha ⟨k, h⟩
  rw [← this]
  congr 3
  simp [ByteArray.getElem_eq_getElem_data, List.getD, show k < 64 by omega]

theorem cItself (b : UInt8) (w : World) :
    Calls Try.prog 72 #[.int .u8 b.toNat] w fun e w' => e = .returned (.string ⟨#[b]⟩) ∧ Below w.heap.size w w' := by
  have hown : (w.alloc (.cells #[.int .u8 b.toNat] 5)).ownsRow 0 5 1 (.slice (some ⟨w.heap.size, 0, none⟩) [b].length 1) [b].length (Lib.byteCells [b]) :=
    ⟨rfl, .inr ⟨w.heap.size, 1, #[.int .u8 b.toNat], rfl, Nat.zero_le _, heap_alloc_new w _, Nat.le_refl _, by decide, rfl, rfl⟩⟩
  have hrun := run_str_own (P := Try.prog) (src := 41) (dst := 9) Try.underlying41 Try.underlying5 Try.underlying9 hown
  have hr : (convert 41 9 (.slice (some ⟨w.heap.size, 0, none⟩) 1 1)).run Try.prog (w.alloc (.cells #[.int .u8 b.toNat] 5)) = .ok (.string ⟨#[b]⟩) (w.alloc (.cells #[.int .u8 b.toNat] 5)) := hrun
  clear hown hrun
  go_enter Try.func72, Try.ntmps72
  go_wp2
  go_ret
  exact ⟨rfl, (Below.refl _ _).alloc (Nat.le_refl _) _⟩

theorem valOf_hit {l : List UInt8} (k : Nat) (h : k < 64) (e : l = [letN k]) : valOf l = k := by
  rw [e]
  exact val_let' k h

theorem valOf_none {l : List UInt8} (h : ∀ k, k < 64 → l ≠ [letN k]) : valOf l = -1 := by
  unfold valOf
  split
  · rename_i b
    by_cases hb : 0 ≤ valN b
    · exact absurd (by rw [let_val hb]) (h (valN b).toNat (by have := val_lt b; omega))
    · have := val_ge b
      omega
  · rfl

theorem tl (s : ByteArray) : s.toList = s.data.toList := Lib.toList_data s

theorem u8 (b : UInt8) : (b.toNat : Int).toNat.toUInt8 = b := by rw [Int.toNat_natCast]; exact UInt8.ofNat_toNat

theorem e_sz (s : ByteArray) : s.size = s.data.toList.length := Array.length_toList.symm

theorem i64_range {n : Int} (h : (Lit.int .i64 n).wf = true) : -9223372036854775808 ≤ n ∧ n ≤ 9223372036854775807 := by
  have e1 : IntKind.i64.min = -9223372036854775808 := by decide
  have e2 : IntKind.i64.max = 9223372036854775807 := by decide
  simp [Lit.wf, e1, e2] at h
  exact h

end Go.Proofs.Ytcjeodgfpnecgaa

namespace Go.Proofs.Ytcjeodgfpnecgaa
open Go.RowKit

theorem wrap_in (x : Nat) (h : x < 9223372036854775808) : wrap64 (x : Int) = x := by
  unfold wrap64
  omega

theorem ofInt_nat (n : Nat) (x : Nat) (h : x < 2 ^ n) : (BitVec.ofInt n (x : Int)).toNat = x := by
  rw [BitVec.ofInt_natCast, BitVec.toNat_ofNat, Nat.mod_eq_of_lt h]

theorem or64 (x y : Nat) (hx : x < 9223372036854775808) (hy : y < 9223372036854775808) (h : x ||| y < 9223372036854775808) : bits BinOp.or IntKind.i64 (x : Int) (y : Int) = ((x ||| y : Nat) : Int) := by
  have e : bits BinOp.or IntKind.i64 (x : Int) (y : Int) = IntKind.i64.wrap ((BitVec.ofInt 64 (x : Int) ||| BitVec.ofInt 64 (y : Int)).toNat : Int) := rfl
  rw [e, BitVec.toNat_or, ofInt_nat 64 x (by omega), ofInt_nat 64 y (by omega)]
  exact IntWalk.i64_in _ (by omega)

theorem lor_low (k x y : Nat) (hy : y < 2 ^ k) : 2 ^ k * x ||| y = 2 ^ k * x + y := (Nat.two_pow_add_eq_or_of_lt hy x).symm

theorem or64_add (k x y : Nat) (hy : y < 2 ^ k) (h : 2 ^ k * x + y < 9223372036854775808) : bits BinOp.or IntKind.i64 ((2 ^ k * x : Nat) : Int) (y : Int) = ((2 ^ k * x + y : Nat) : Int) := by
  rw [or64 _ _ (by omega) (by omega) (by rw [lor_low k x y hy]; exact h), lor_low k x y hy]

theorem and63 (x : Nat) (h : x < 9223372036854775808) : bits BinOp.and IntKind.i64 (x : Int) 63 = ((x % 64 : Nat) : Int) := by
  have e : bits BinOp.and IntKind.i64 (x : Int) 63 = IntKind.i64.wrap ((BitVec.ofInt 64 (x : Int) &&& BitVec.ofInt 64 63).toNat : Int) := rfl
  have h63 : (BitVec.ofInt 64 63).toNat = 2 ^ 6 - 1 := by decide
  rw [e, BitVec.toNat_and, ofInt_nat 64 x (by omega), h63, Nat.and_two_pow_sub_one_eq_mod]
  exact IntWalk.i64_in _ (by omega)

theorem u32_in (x : Nat) (h : x < 4294967296) : IntKind.u32.wrap (x : Int) = x := by
  simp [IntKind.wrap, IntKind.bits, IntKind.signed]
  omega

theorem wrapA (a : UInt8) : wrap64 (a.toNat : Int) = (a.toNat : Int) := wrap_in _ (by have := a.toNat_lt; omega)
theorem wrapA16 (a : UInt8) : wrap64 ((a.toNat : Int) * 65536) = (a.toNat : Int) * 65536 := by
  have := a.toNat_lt
  unfold wrap64
  omega
theorem wrapA8 (a : UInt8) : wrap64 ((a.toNat : Int) * 256) = (a.toNat : Int) * 256 := by
  have := a.toNat_lt
  unfold wrap64
  omega
theorem orAB (a b : UInt8) : bits BinOp.or IntKind.i64 ((a.toNat : Int) * 65536) ((b.toNat : Int) * 256) = (a.toNat : Int) * 65536 + (b.toNat : Int) * 256 := by
  have := a.toNat_lt
  have := b.toNat_lt
  have e := or64_add 16 a.toNat (b.toNat * 256) (by omega) (by omega)
  rw [show ((2 ^ 16 * a.toNat : Nat) : Int) = (a.toNat : Int) * 65536 by omega, show ((b.toNat * 256 : Nat) : Int) = (b.toNat : Int) * 256 by omega] at e
  rw [e]
  omega
theorem orABC (a b c : UInt8) : bits BinOp.or IntKind.i64 ((a.toNat : Int) * 65536 + (b.toNat : Int) * 256) (c.toNat : Int) = ((a.toNat * 65536 + b.toNat * 256 + c.toNat : Nat) : Int) := by
  have := a.toNat_lt
  have := b.toNat_lt
  have := c.toNat_lt
  have e := or64_add 8 (a.toNat * 256 + b.toNat) c.toNat (by omega) (by omega)
  rw [show ((2 ^ 8 * (a.toNat * 256 + b.toNat) : Nat) : Int) = (a.toNat : Int) * 65536 + (b.toNat : Int) * 256 by omega] at e
  rw [e]
  omega
theorem n24 (a b c : UInt8) : a.toNat * 65536 + b.toNat * 256 + c.toNat < 16777216 := by
  have := a.toNat_lt
  have := b.toNat_lt
  have := c.toNat_lt
  omega

theorem or32 (x y : Nat) (hx : x < 4294967296) (hy : y < 4294967296) (h : x ||| y < 4294967296) : bits BinOp.or IntKind.u32 (x : Int) (y : Int) = ((x ||| y : Nat) : Int) := by
  have e : bits BinOp.or IntKind.u32 (x : Int) (y : Int) = IntKind.u32.wrap ((BitVec.ofInt 32 (x : Int) ||| BitVec.ofInt 32 (y : Int)).toNat : Int) := rfl
  rw [e, BitVec.toNat_or, ofInt_nat 32 x (by omega), ofInt_nat 32 y (by omega)]
  exact u32_in _ h

theorem or32_add (k x y : Nat) (hy : y < 2 ^ k) (h : 2 ^ k * x + y < 4294967296) : bits BinOp.or IntKind.u32 ((2 ^ k * x : Nat) : Int) (y : Int) = ((2 ^ k * x + y : Nat) : Int) := by
  rw [or32 _ _ (by omega) (by omega) (by rw [lor_low k x y hy]; exact h), lor_low k x y hy]

theorem and32 (k x : Nat) (h : x < 4294967296) (hk : k ≤ 31) : bits BinOp.and IntKind.u32 (x : Int) ((2 ^ k - 1 : Nat) : Int) = ((x % 2 ^ k : Nat) : Int) := by
  have e : bits BinOp.and IntKind.u32 (x : Int) ((2 ^ k - 1 : Nat) : Int) = IntKind.u32.wrap ((BitVec.ofInt 32 (x : Int) &&& BitVec.ofInt 32 ((2 ^ k - 1 : Nat) : Int)).toNat : Int) := rfl
  have hp : 2 ^ k < 2 ^ 32 := Nat.pow_lt_pow_right (by omega) (by omega)
  rw [e, BitVec.toNat_and, ofInt_nat 32 x (by omega), ofInt_nat 32 _ (by omega), Nat.and_two_pow_sub_one_eq_mod]
  exact u32_in _ (Nat.lt_of_le_of_lt (Nat.mod_le _ _) h)

end Go.Proofs.Ytcjeodgfpnecgaa
