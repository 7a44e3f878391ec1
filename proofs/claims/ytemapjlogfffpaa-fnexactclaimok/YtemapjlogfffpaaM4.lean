/- Contracts of impl: letters, the first colon, a name split, NameOk. Contracts of strings.Clone, impl.NameOk and impl.Parts. Contracts of spec.NameOk and spec.Parts. Plain mathematics for this seat: bytes that are plain, what is escaped, what is unescaped; nothing of the program stands here. -/
import Derived.Test.YtemapjlogfffpaaRows
import Derived.Test.YtemapjlogfffpaaM3
import Derived.Test.YtemapjlogfffpaaM1
import Derived.WalkKit
import Derived.Deep.QuietTactic
import Derived.BigQuiet
import Derived.OwnWalk
import Derived.Lib.BufferWrite
import Derived.Lib.UnsafeStr
import Derived.Laws.CopyOwn
namespace Go.Proofs.Ytemapjlogfffpaa
open Go.RowKit
set_option linter.unusedVariables false
set_option linter.unusedSimpArgs false

end Go.Proofs.Ytemapjlogfffpaa

namespace Go.Proofs.Ytemapjlogfffpaa
open Go.RowKit
set_option linter.unusedVariables false
set_option linter.unusedSimpArgs false

theorem info5 : (Try.prog.info? 5).map (fun i => (i.zero, i.size, i.bytes)) = some (some (.int .u8 0), 1, 1) := by kernel_rfl
theorem size5 : (Try.prog.info? 5).map (·.size) = some 1 := by kernel_rfl
theorem cells5 : Try.prog.cellsOf 5 = 1 := by kernel_rfl

theorem empty_of (s : ByteArray) (h : s.size = 0) : s = ⟨#[]⟩ := by
  have : s.data.toList = [] := List.length_eq_zero_iff.1 h
  apply ByteArray.ext
  apply Array.toList_inj.1
  simpa using this

/-- What Parts answers. -/
def partP (l : List UInt8) : List UInt8 := if nameL l then preL l else []
def partL (l : List UInt8) : List UInt8 := if nameL l then locL l else []

theorem len_pre (l : List UInt8) : (preL l).length ≤ l.length := by
  unfold preL; split
  · simp
  · simp; omega
theorem len_loc (l : List UInt8) : (locL l).length ≤ l.length := by
  unfold locL; split
  · simp
  · simp

theorem size_mk (l : List UInt8) : (⟨l.toArray⟩ : ByteArray).size = l.length := by
  have := sz ⟨l.toArray⟩
  rw [this]

end Go.Proofs.Ytemapjlogfffpaa

namespace Go.Proofs.Ytemapjlogfffpaa
open Go.RowKit
set_option linter.unusedVariables false
set_option linter.unusedSimpArgs false

theorem pieceA_le (l : List UInt8) : ∀ cur p, p ∈ splitA cur l → p.length ≤ cur.length + l.length := by
  induction l with
  | nil => intro cur p h; simp [splitA] at h; subst h; simp
  | cons c r ih =>
    intro cur p h
    rw [splitA] at h
    split at h
    · rw [List.mem_cons] at h
      rcases h with h | h
      · subst h; simp
      · have := ih _ _ h; simp at this ⊢; omega
    · have := ih _ _ h; simp at this ⊢; omega

theorem piece_le {l p : List UInt8} (h : p ∈ splitL l) : p.length ≤ l.length := by
  have := pieceA_le l [] p h
  simpa using this

theorem own_at {w : World} {B : Nat} {v : Value} {n : Nat} {xs : List Value} (h : w.ownsRow B 9 1 v n xs) (hn : 0 < n) :
    ∃ g cap, v = .slice (some ⟨g, 0, none⟩) n cap ∧ ∀ j u, xs[j]? = some u → w.cell? ⟨g, j, none⟩ = some u := by
  rcases h.2 with ⟨_, h0⟩ | ⟨g, cap, cur, hv, _⟩
  · omega
  · refine ⟨g, cap, hv, fun j u hj => ?_⟩
    have := h.cells (g := g) (by rw [hv]; rfl) j u hj
    have hplain : (⟨g, 0, none⟩ : Addr).add j = ⟨g, j, none⟩ := by unfold Addr.add; split <;> simp_all
    rw [hplain] at this
    exact this

theorem split_shape (l : List UInt8) : (∃ a, splitL l = [a]) ∨ (∃ a b, splitL l = [a, b]) ∨ 3 ≤ (splitL l).length := by
  match h : splitL l with
  | [] =>
    exfalso
    cases hx : colonAt l with
    | none => rw [splitL_no hx] at h; simp at h
    | some c => rw [splitL_some hx] at h; simp at h
  | [a] => exact .inl ⟨a, rfl⟩
  | [a, b] => exact .inr (.inl ⟨a, b, rfl⟩)
  | a :: b :: c :: r => exact .inr (.inr (by simp))

theorem piecesOk_long {p : List (List UInt8)} (h : 3 ≤ p.length) : piecesOk p = false := by
  match p, h with
  | a :: b :: c :: r, _ => rfl

theorem drewN_below {B : Nat} {w w1 : World} (h : Below B w w1) (n : Nat) : Below B w (w1.drewN n) := ⟨h.os, h.tape, h.output, h.size, h.block⟩

/-- Which pieces a good name has. -/
theorem good_shape {l : List UInt8} (h : nameL l = true) : (∃ a, splitL l = [a] ∧ partP l = [] ∧ partL l = a) ∨ ∃ a b, splitL l = [a, b] ∧ partP l = a ∧ partL l = b := by
  cases hc : colonAt l with
  | none => exact .inl ⟨l, splitL_no hc, by simp [partP, h, preL, hc], by simp [partL, h, locL, hc]⟩
  | some a =>
    cases h2 : colonAt (l.drop (a + 1)) with
    | none => exact .inr ⟨l.take a, l.drop (a + 1), by rw [splitL_some hc, splitL_no h2], by simp [partP, h, preL, hc], by simp [partL, h, locL, hc]⟩
    | some b =>
      exfalso
      have hn : lettersL (l.drop (a + 1)) = false := colon_letters h2
      simp [nameL, hc, locL, hn] at h

end Go.Proofs.Ytemapjlogfffpaa

namespace Go.Proofs.Ytemapjlogfffpaa
open Go.RowKit

/-- Is this byte plain: 32 to 126, or 10? -/
def plainB (c : Int) : Bool := (decide (32 ≤ c) && decide (c ≤ 126)) || (c == 10)

def plainL (l : List UInt8) : Bool := l.all fun c => plainB c.toNat

theorem take_snocE (s : ByteArray) (k : Nat) (h : k < s.size) : s.data.toList.take (k + 1) = s.data.toList.take k ++ [s[k]] := by
  rw [List.take_succ_eq_append_getElem (by simpa using h)]; rfl

theorem plainL_snoc (l : List UInt8) (c : UInt8) : plainL (l ++ [c]) = (plainL l && plainB c.toNat) := by
  simp [plainL]

theorem plainL_full (s : ByteArray) (k : Nat) (h : ¬ k < s.size) : s.data.toList.take k = s.data.toList := by
  have e : s.size = s.data.toList.length := rfl
  exact List.take_of_length_le (by omega)

theorem plainL_no (s : ByteArray) (k : Nat) (h : k < s.size) (hb : plainB s[k].toNat = false) : plainL s.data.toList = false := by
  have hm : s[k] ∈ s.data.toList := by simp [ByteArray.getElem_eq_getElem_data]
  cases hp : plainL s.data.toList with
  | false => rfl
  | true =>
    unfold plainL at hp
    rw [List.all_eq_true] at hp
    have := hp _ hm
    rw [hb] at this
    exact absurd this (by decide)

/-- What a byte is written as, between quotes or not. -/
def escB (q : Bool) (c : UInt8) : List UInt8 :=
  if c.toNat = 38 then [38, 97, 109, 112, 59] else if c.toNat = 60 then [38, 108, 116, 59]
  else if c.toNat = 62 then (if q then [c] else [38, 103, 116, 59]) else if c.toNat = 34 then (if q then [38, 113, 117, 111, 116, 59] else [c]) else [c]

def escL (q : Bool) (l : List UInt8) : List UInt8 := l.flatMap (escB q)

def escapedL (q : Bool) (l : List UInt8) : List UInt8 := if plainL l then escL q l else []

theorem escL_snoc (q : Bool) (l : List UInt8) (c : UInt8) : escL q (l ++ [c]) = escL q l ++ escB q c := by
  simp [escL]

theorem escB_le (q : Bool) (c : UInt8) : (escB q c).length ≤ 6 := by
  unfold escB; (repeat' split) <;> simp

theorem escL_le (q : Bool) (l : List UInt8) : (escL q l).length ≤ 6 * l.length := by
  induction l with
  | nil => simp [escL]
  | cons c l ih =>
    have h : escL q (c :: l) = escB q c ++ escL q l := by simp [escL]
    have := escB_le q c
    rw [h, List.length_append, List.length_cons]
    omega

end Go.Proofs.Ytemapjlogfffpaa
