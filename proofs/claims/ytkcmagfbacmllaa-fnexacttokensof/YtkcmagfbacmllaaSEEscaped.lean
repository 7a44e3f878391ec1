/- Contracts of spec.Escaped and impl.Escaped: both write what escapedL says. -/
import Derived.Test.YtkcmagfbacmllaaRows
import Derived.Test.YtkcmagfbacmllaaSEMath
import Derived.Test.YtkcmagfbacmllaaKit
import Derived.Test.YtkcmagfbacmllaaSEPlain
import Derived.Test.YtkcmagfbacmllaaSESigns
import Derived.Test.YtkcmagfbacmllaaBuilder
import Derived.WalkKit
namespace Go.Proofs.Ytkcmagfbacmllaa
open Go.RowKit

/-- One round of the builder's loop. -/
theorem esc_round {q : Bool} {s : ByteArray} {k : Nat} {w1 : World} {B : Nat} (hlt : k < s.size)
    (h : Lib.IsBuilder 57 5 B B (Lib.byteCells (escL q (s.data.toList.take k)) ++ Lib.strCells ⟨(escB q s[k]).toArray⟩) w1) :
    Lib.IsBuilder 57 5 B B (Lib.byteCells (escL q (s.data.toList.take (k + 1)))) w1 := by
  rw [take_snocE s k hlt, escL_snoc, byteCells_app, ← strCells_eq (escB q s[k])]
  exact h

theorem len_esc (q : Bool) (s : ByteArray) (k : Nat) (hk : k ≤ s.size) : (Lib.byteCells (escL q (s.data.toList.take k))).length ≤ 6 * s.size := by
  rw [Lib.byteCells_length]
  have h := escL_le q (s.data.toList.take k)
  have h2 : (s.data.toList.take k).length ≤ k := List.length_take_le _ _
  omega

theorem size_esc (q : Bool) (c : UInt8) : (⟨(escB q c).toArray⟩ : ByteArray).size ≤ 6 := by
  have := escB_le q c
  simpa [ByteArray.size] using this

theorem own_step {q : Bool} {s : ByteArray} {k : Nat} {w1 : World} {B n : Nat} {v : Value} {xs : List Value} {l : List UInt8} (hlt : k < s.size) (hl : escB q s[k] = l) (hn : n = l.length) (hx : xs = Lib.byteCells l)
    (h : w1.ownsRow B 5 1 v ((escL q (s.data.toList.take k)).length + n) (Lib.byteCells (escL q (s.data.toList.take k)) ++ xs)) :
    w1.ownsRow B 5 1 v (escL q (s.data.toList.take (k + 1))).length (Lib.byteCells (escL q (s.data.toList.take (k + 1)))) := by
  rw [take_snocE s k hlt, escL_snoc, byteCells_app, List.length_append, hl, ← hn, ← hx]
  exact h

theorem len_esc' (q : Bool) (s : ByteArray) (k : Nat) (hk : k ≤ s.size) : (escL q (s.data.toList.take k)).length ≤ 6 * s.size := by
  have h := escL_le q (s.data.toList.take k)
  have h2 : (s.data.toList.take k).length ≤ k := List.length_take_le _ _
  omega

theorem info5E : (Try.prog.info? 5).map (fun i => (i.zero, i.size, i.bytes)) = some (some (.int .u8 0), 1, 1) := by kernel_rfl

theorem one_cellE (w : World) (v : Value) : ∀ j u, [v][j]? = some u → (w.alloc (.cells #[v] 5)).cell? ((⟨w.heap.size, 0, none⟩ : Addr).add j) = some u := by
  intro j u hj
  match j, hj with
  | 0, hj => simp at hj; subst hj; simp [Addr.add]

theorem one_one (n : Int) : ∀ u ∈ [Value.int .u8 n], u.oneCell' = true := by
  intro u hu; simp at hu; subst hu; rfl

end Go.Proofs.Ytkcmagfbacmllaa
