/- Plain mathematics for this seat: bytes that are plain, what is escaped, what is unescaped; nothing of the program stands here. -/
import Derived.WalkKit
namespace Go.Proofs.Ytnbpcgeojmikoaa
open Go.RowKit

/-- Is this byte plain: 32 to 126, or 10? -/
def plainB (c : Int) : Bool := (decide (32 ≤ c) && decide (c ≤ 126)) || (c == 10)

def plainL (l : List UInt8) : Bool := l.all fun c => plainB c.toNat

theorem take_snocE (s : ByteArray) (k : Nat) (h : k < s.size) : s.data.toList.take (k + 1) = s.data.toList.take k ++ [s[k]] := by
  rw [List.take_succ_eq_append_getElem (by simpa using h)]; rfl

theorem plainL_snoc (l : List UInt8) (c : UInt8) : plainL (l ++ [c]) = (plainL l && plainB c.toNat) := by
  simp [plainL]

theorem plainL_full (s : ByteArray) (k : Nat) (h : ¬ k < s.size) : s.data.toList.take k = s.data.toList := by
  have e : s.size = s.data.toList.length := rfl
  exact List.take_of_length_le (by omega)

theorem plainL_no (s : ByteArray) (k : Nat) (h : k < s.size) (hb : plainB s[k].toNat = false) : plainL s.data.toList = false := by
  have hm : s[k] ∈ s.data.toList := by simp [ByteArray.getElem_eq_getElem_data]
  cases hp : plainL s.data.toList with
  | false => rfl
  | true =>
    unfold plainL at hp
    rw [List.all_eq_true] at hp
    have := hp _ hm
    rw [hb] at this
    exact absurd this (by decide)

/-- What a byte is written as, between quotes or not. -/
def escB (q : Bool) (c : UInt8) : List UInt8 :=
  if c.toNat = 38 then [38, 97, 109, 112, 59] else if c.toNat = 60 then [38, 108, 116, 59]
  else if c.toNat = 62 then (if q then [c] else [38, 103, 116, 59]) else if c.toNat = 34 then (if q then [38, 113, 117, 111, 116, 59] else [c]) else [c]

def escL (q : Bool) (l : List UInt8) : List UInt8 := l.flatMap (escB q)

def escapedL (q : Bool) (l : List UInt8) : List UInt8 := if plainL l then escL q l else []

theorem escL_snoc (q : Bool) (l : List UInt8) (c : UInt8) : escL q (l ++ [c]) = escL q l ++ escB q c := by
  simp [escL]

theorem escB_le (q : Bool) (c : UInt8) : (escB q c).length ≤ 6 := by
  unfold escB; (repeat' split) <;> simp

theorem escL_le (q : Bool) (l : List UInt8) : (escL q l).length ≤ 6 * l.length := by
  induction l with
  | nil => simp [escL]
  | cons c l ih =>
    have h : escL q (c :: l) = escB q c ++ escL q l := by simp [escL]
    have := escB_le q c
    rw [h, List.length_append, List.length_cons]
    omega

end Go.Proofs.Ytnbpcgeojmikoaa
