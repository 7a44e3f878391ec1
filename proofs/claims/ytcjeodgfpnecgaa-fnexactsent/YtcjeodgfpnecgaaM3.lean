/- A row of attrs among the arguments, opened. Contracts of what the exact laws call on tokens: sized, copied, compared; a token among the arguments, opened. -/
import Derived.Test.YtcjeodgfpnecgaaM1
import Derived.Test.YtcjeodgfpnecgaaM2
import Derived.Lib.SmallJoins
import Derived.Deep.SlicePairs
import Derived.ProofKit
import Derived.OpenShut
namespace Go.Proofs.Ytcjeodgfpnecgaa
open Go.ChangeShapes Go.WideShapes Go.ChangeAt Go.RowKit
set_option linter.unusedVariables false

def strVN (v : Value) : ByteArray := match v with | .string s => s | _ => ByteArray.empty

/-- A slice of attrs that can be read, by the cell that it lies in. -/
theorem attrs_of {H : Type} {enc : TypeId × Value → H} {W : World} {fuel : Nat} {v : Value} {x : DataW H × List MemPlace}
    (h : DataW.trod enc Try.prog W 0 (fun _ => true) true fuel 30 [v] = some x) (hlt : ∀ y ∈ x.2, y.block < W.heap.size) :
    ∃ (a : Option Addr) (cap : Nat) (l : List At), v = .slice a l.length cap ∧ l.length ≤ maxLen ∧ AtRow W a l ∧ AtSz maxLen l := by
  rcases Deep.open_slice_pairs Try.underlying30 Try.underlying66 (by kernel_rfl) rfl rfl (by kernel_rfl) (by kernel_rfl) h with ⟨hcs, hx⟩ | ⟨a, len, cap, m, n, V0, V1, D0, D1, P0, P1, hcs, _, hl, hm, hmm, hx, hall⟩
  · simp only [List.cons.injEq, and_true] at hcs
    subst hcs
    exact ⟨none, 0, [], rfl, by simp, fun j h => by simp at h, fun s h => by simp at h⟩
  · simp only [List.cons.injEq, and_true] at hcs
    subst hcs
    simp only [if_true] at hmm
    subst hmm
    have each : ∀ i, i < len → (V0 i = .string (strVN (V0 i)) ∧ V1 i = .string (strVN (V1 i))) ∧ (strVN (V0 i)).size ≤ maxLen ∧ (strVN (V1 i)).size ≤ maxLen := by
      intro i hi
      obtain ⟨_, _, t0, t1⟩ := hall i (by omega)
      obtain ⟨s, hs, _, ws⟩ := DataW.trod_string Try.underlying9 t0
      obtain ⟨u, hu, _, wu⟩ := DataW.trod_string Try.underlying9 t1
      simp only [List.cons.injEq, and_true] at hs hu
      rw [hs, hu]
      exact ⟨⟨rfl, rfl⟩, ws, wu⟩
    refine ⟨some a, m, (List.range len).map fun i => ⟨strVN (V0 i), strVN (V1 i)⟩, by simp, by simp; omega, fun j hj => ?_, fun y hy => ?_⟩
    · simp only [List.length_map, List.length_range] at hj
      obtain ⟨b, off, spot⟩ := a
      have hc := hall j (by omega)
      have hspot : spot = none := by simpa [Addr.add] using World.cell?_spot (hall 0 (by omega)).1
      subst hspot
      have e := each j hj
      have c1 := hc.1
      have c2 := hc.2.1
      rw [add_plain] at c1 c2
      refine ⟨b, off, rfl, hlt (.cell b off) (by rw [hx]; exact List.mem_append_left _ (MemPlace.mem_row.2 ⟨0, by omega, by simp⟩)), ?_, ?_⟩
      · rw [c1, e.1.1]; simp [strVN]
      · rw [← Nat.add_assoc] at c2
        rw [c2, e.1.2]; simp [strVN]
    · obtain ⟨i, hi, rfl⟩ := List.mem_map.1 hy
      exact (each i (List.mem_range.1 hi)).2

theorem attrs_arg {H : Type} {enc : TypeId × Value → H} {W : World} {v : Value} {d : DataW H} {p : List MemPlace}
    (h : DataW.Trod enc Try.prog W 0 (fun _ => true) true 30 v d p) (hv : ∃ a len cap, v = .slice a len cap) (hlt : ∀ y ∈ p, y.block < W.heap.size) :
    ∃ (a : Option Addr) (cap : Nat) (l : List At), v = .slice a l.length cap ∧ l.length ≤ maxLen ∧ AtRow W a l ∧ AtSz maxLen l := by
  obtain ⟨fuel, hf⟩ := h
  obtain ⟨a, len, cap, rfl⟩ := hv
  exact attrs_of (x := (d, p)) (by simpa [Value.cells] using hf) hlt

end Go.Proofs.Ytcjeodgfpnecgaa

namespace Go.Proofs.Ytcjeodgfpnecgaa
open Go.RowKit
set_option linter.unusedVariables false
set_option linter.unusedSimpArgs false

/-- A token; a node, too (its parent for its kind). -/
structure Tk where
  kind : Int
  name : ByteArray
  attrs : List At
  text : ByteArray

/-- A token's cells, its attrs in the row at a. -/
abbrev tkV (t : Tk) (a : Option Addr) (cap : Nat) : Value := .agg #[.int .i64 t.kind, .string t.name, .slice a t.attrs.length cap, .string t.text]

def TkSz (n : Nat) (t : Tk) : Prop := t.name.size ≤ n ∧ t.attrs.length ≤ n ∧ AtSz n t.attrs ∧ t.text.size ≤ n

theorem heap3 (w : World) (A B C : Obj) : (((w.alloc A).alloc B).alloc C).heap[w.heap.size]? = some A ∧ (((w.alloc A).alloc B).alloc C).heap[w.heap.size + 1]? = some B ∧ (((w.alloc A).alloc B).alloc C).heap[w.heap.size + 2]? = some C := by
  have s1 : (w.alloc A).heap.size = w.heap.size + 1 := by simp
  have s2 : ((w.alloc A).alloc B).heap.size = w.heap.size + 2 := by simp
  refine ⟨?_, ?_, ?_⟩
  · rw [Below.heap_alloc _ _ _ (by omega), Below.heap_alloc _ _ _ (by omega)]
    exact heap_alloc_new w A
  · rw [Below.heap_alloc _ _ _ (by omega), ← s1]
    exact heap_alloc_new _ B
  · rw [← s2]
    exact heap_alloc_new _ C

theorem box4 {w : World} {g : Nat} {x y z u : Value} {T : TypeId} (h : w.heap[g]? = some (.cells #[x, y, z, u] T (0, 0))) :
    (w.cell? ⟨g, 0, none⟩ = some x ∧ w.cell? ⟨g, 1, none⟩ = some y ∧ w.cell? ⟨g, 2, none⟩ = some z ∧ w.cell? ⟨g, 3, none⟩ = some u) ∧ (w.frozen? ⟨g, 0, none⟩ = false ∧ w.frozen? ⟨g, 1, none⟩ = false ∧ w.frozen? ⟨g, 2, none⟩ = false ∧ w.frozen? ⟨g, 3, none⟩ = false) :=
  ⟨⟨by rw [Lib.cell_of_heap h]; rfl, by rw [Lib.cell_of_heap h]; rfl, by rw [Lib.cell_of_heap h]; rfl, by rw [Lib.cell_of_heap h]; rfl⟩, Lib.frozen_of_heap h 0, Lib.frozen_of_heap h 1, Lib.frozen_of_heap h 2, Lib.frozen_of_heap h 3⟩

theorem AtRow.setCell {w : World} {g o : Nat} {l : List At} (h : AtRow w (some ⟨g, o, none⟩) l) {p : Addr} (hne : ¬ g = p.block) (v : Value) : AtRow (w.setCell p v) (some ⟨g, o, none⟩) l := by
  intro j hj
  obtain ⟨b, o', e, hlt, c1, c2⟩ := h j hj
  cases e
  have hb := Below.heap_setCell w p v g hne
  refine ⟨g, o, rfl, lt_of_heap (hb.trans (Array.getElem?_eq_getElem hlt)), ?_, ?_⟩
  · rw [World.cell?_of_block (w := w) hb]; exact c1
  · rw [World.cell?_of_block (w := w) hb]; exact c2

theorem blk_below {w w1 : World} {B : Nat} {o : Obj} (h : w.heap[B]? = some o) (k : Below w.heap.size w w1) : w1.heap[B]? = some o := (k.block B (lt_of_heap h)).trans h

theorem blk_alloc {w : World} {B : Nat} {o : Obj} (h : w.heap[B]? = some o) (o' : Obj) : (w.alloc o').heap[B]? = some o := (Below.heap_alloc w o' B (lt_of_heap h)).trans h

end Go.Proofs.Ytcjeodgfpnecgaa
