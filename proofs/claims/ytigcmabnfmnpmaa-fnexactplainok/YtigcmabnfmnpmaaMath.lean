/- Plain mathematics for this seat: bytes that are plain, what is escaped, what is unescaped; nothing of the program stands here. -/
import Derived.WalkKit
namespace Go.Proofs.Ytigcmabnfmnpmaa
open Go.RowKit

/-- Is this byte plain: 32 to 126, or 10? -/
def plainB (c : Int) : Bool := (decide (32 ≤ c) && decide (c ≤ 126)) || (c == 10)

def plainL (l : List UInt8) : Bool := l.all fun c => plainB c.toNat

theorem take_snoc (s : ByteArray) (k : Nat) (h : k < s.size) : s.data.toList.take (k + 1) = s.data.toList.take k ++ [s[k]] := by
  rw [List.take_succ_eq_append_getElem (by simpa using h)]; rfl

theorem plainL_snoc (l : List UInt8) (c : UInt8) : plainL (l ++ [c]) = (plainL l && plainB c.toNat) := by
  simp [plainL]

theorem plainL_full (s : ByteArray) (k : Nat) (h : ¬ k < s.size) : s.data.toList.take k = s.data.toList := by
  have e : s.size = s.data.toList.length := rfl
  exact List.take_of_length_le (by omega)

theorem plainL_no (s : ByteArray) (k : Nat) (h : k < s.size) (hb : plainB s[k].toNat = false) : plainL s.data.toList = false := by
  have hm : s[k] ∈ s.data.toList := by simp [ByteArray.getElem_eq_getElem_data]
  cases hp : plainL s.data.toList with
  | false => rfl
  | true =>
    unfold plainL at hp
    rw [List.all_eq_true] at hp
    have := hp _ hm
    rw [hb] at this
    exact absurd this (by decide)

end Go.Proofs.Ytigcmabnfmnpmaa
