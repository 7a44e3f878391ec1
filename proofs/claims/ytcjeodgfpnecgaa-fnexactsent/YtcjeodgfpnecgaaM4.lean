/- Marks that the exact laws leave in what was answered: a text for a number; marks in a row of attrs, set and held. Marks in a row of attrs: set, and held. -/
import Derived.Test.YtcjeodgfpnecgaaM3
namespace Go.Proofs.Ytcjeodgfpnecgaa
open Go.RowKit
set_option linter.unusedVariables false
set_option linter.unusedSimpArgs false

def digB (k : Nat) : UInt8 := UInt8.ofNat (48 + k % 10)

def decB (k : Nat) (out : ByteArray) : ByteArray := if h : k = 0 then out else decB (k / 10) ((⟨#[digB k]⟩ : ByteArray) ++ out)
termination_by k
decreasing_by omega

theorem decB_zero (out : ByteArray) : decB 0 out = out := by unfold decB; simp

theorem decB_step {k : Nat} (h : ¬ k = 0) (out : ByteArray) : decB k out = decB (k / 10) ((⟨#[digB k]⟩ : ByteArray) ++ out) := by rw [decB]; simp [h]

/-- The text of a mark. -/
def markS (k : Nat) : ByteArray := if k = 0 then ⟨#[109, 48]⟩ else (⟨#[109]⟩ : ByteArray) ++ decB k ⟨#[]⟩

theorem decB_size : ∀ (k : Nat) (out : ByteArray), (decB k out).size ≤ k + out.size := by
  intro k
  induction k using Nat.strongRecOn with
  | _ k ih =>
    intro out
    by_cases h : k = 0
    · subst h; rw [decB_zero]; omega
    · rw [decB_step h]
      have := ih (k / 10) (by omega) ((⟨#[digB k]⟩ : ByteArray) ++ out)
      rw [ByteArray.size_append, show (⟨#[digB k]⟩ : ByteArray).size = 1 from rfl] at this
      omega

theorem markS_size (k : Nat) : (markS k).size ≤ k + 2 := by
  unfold markS
  split
  · show 2 ≤ k + 2
    omega
  · rw [ByteArray.size_append, show (⟨#[109]⟩ : ByteArray).size = 1 from rfl]
    have := decB_size k ⟨#[]⟩
    rw [show (⟨#[]⟩ : ByteArray).size = 0 from rfl] at this
    omega

theorem conv1 (W : World) (b : UInt8) : (convert 41 9 (.slice (some ⟨W.heap.size, 0, none⟩) 1 1)).run Try.prog (W.alloc (.cells #[.int .u8 b.toNat] 5)) = .ok (.string ⟨#[b]⟩) (W.alloc (.cells #[.int .u8 b.toNat] 5)) := by
  have hown : (W.alloc (.cells #[.int .u8 b.toNat] 5)).ownsRow 0 5 1 (.slice (some ⟨W.heap.size, 0, none⟩) [b].length 1) [b].length (Lib.byteCells [b]) :=
    ⟨rfl, .inr ⟨W.heap.size, 1, #[.int .u8 b.toNat], rfl, Nat.zero_le _, heap_alloc_new W _, Nat.le_refl _, by decide, rfl, rfl⟩⟩
  exact run_str_own (P := Try.prog) (src := 41) (dst := 9) Try.underlying41 Try.underlying5 Try.underlying9 hown

theorem dig_wrap (k : Nat) : IntKind.u8.wrap (48 + (k : Int) % 10) = ((digB k).toNat : Int) := by
  have e : (digB k).toNat = 48 + k % 10 := by
    unfold digB
    rw [UInt8.toNat_ofNat']
    omega
  rw [e]
  rw [show (48 : Int) + (k : Int) % 10 = ((48 + k % 10 : Nat) : Int) by omega]
  exact IntWalk.u8_in _ (by omega)

end Go.Proofs.Ytcjeodgfpnecgaa

namespace Go.Proofs.Ytcjeodgfpnecgaa
open Go.RowKit
set_option linter.unusedVariables false
set_option linter.unusedSimpArgs false

theorem gr_trans {w w1 w2 : World} {row : Option Nat} (h : w.grownBy w1 row) (k : w1.grownBy w2 row) : w.grownBy w2 row :=
  ⟨k.os.trans h.os, k.tape.trans h.tape, k.output.trans h.output, Nat.le_trans h.size k.size, fun i hi hr => (k.block i (Nat.lt_of_lt_of_le hi h.size) hr).trans (h.block i hi hr)⟩

theorem gr_below {w w1 w2 : World} {row : Option Nat} (h : w.grownBy w1 row) (k : Below w1.heap.size w1 w2) : w.grownBy w2 row :=
  ⟨k.os.trans h.os, k.tape.trans h.tape, k.output.trans h.output, Nat.le_trans h.size k.size, fun i hi hr => (k.block i (Nat.lt_of_lt_of_le hi h.size)).trans (h.block i hi hr)⟩

theorem gr_set {w w1 : World} {b : Nat} (h : w.grownBy w1 (some b)) (j : Nat) (v : Value) : w.grownBy (w1.setCell ⟨b, j, none⟩ v) (some b) := gr_trans h (Lib.grownBy_setCell w1 b j v)

/-- A store into a row of cells. -/
theorem heap_set {w : World} {g i : Nat} {cur : Array Value} {T : TypeId} (h : w.heap[g]? = some (.cells cur T (0, 0))) (v : Value) :
    (w.setCell ⟨g, i, none⟩ v).heap[g]? = some (.cells (cur.setIfInBounds i v) T (0, 0)) := by
  simp [World.setCell, Array.getElem?_modify, h]

theorem cell_there {w : World} {g i : Nat} {cur : Array Value} {T : TypeId} (h : w.heap[g]? = some (.cells cur T (0, 0))) (hi : i < cur.size) : ∃ v, w.cell? ⟨g, i, none⟩ = some v := by
  rw [Lib.cell_of_heap h]
  exact ⟨cur[i], Array.getElem?_eq_getElem hi⟩

/-- The first n attrs from o on bear the marks from k on. -/
def MarksA (cur : Array Value) (o n k : Nat) : Prop := ∀ j, j < n → cur[o + j * 2]? = some (.string (markS (k + 2 * j))) ∧ cur[o + j * 2 + 1]? = some (.string (markS (k + 2 * j + 1)))

end Go.Proofs.Ytcjeodgfpnecgaa
