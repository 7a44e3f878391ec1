/- Bytes of a text in a row of their own: made of the text, one of them set, made a text again. -/
import Derived.Test.YtidkbpcceoocaaaDoorHDrawC
import Derived.Laws.IdiomStrings
namespace Go.Proofs.YtidkbpcceoocaaaDoor
open Go.RowKit
set_option linter.unusedVariables false
set_option linter.unusedSimpArgs false

def CellsB (w : World) (g : Nat) (l : List UInt8) : Prop :=
  g < w.heap.size ∧ ∀ j (h : j < l.length), w.cell? ⟨g, j, none⟩ = some (.int .u8 (l[j].toNat : Int)) ∧ w.frozen? ⟨g, j, none⟩ = false

theorem CellsB.below {w w' : World} {g : Nat} {l : List UInt8} (h : CellsB w g l) (hb : Below w.heap.size w w') : CellsB w' g l := by
  refine ⟨Nat.lt_of_lt_of_le h.1 hb.size, fun j hj => ?_⟩
  have hblk := hb.block g h.1
  exact ⟨(World.cell?_of_block (a := ⟨g, j, none⟩) hblk).trans (h.2 j hj).1, (World.frozen?_of_block (a := ⟨g, j, none⟩) hblk).trans (h.2 j hj).2⟩

theorem CellsB.drew {w : World} {g : Nat} {l : List UInt8} (h : CellsB w g l) : CellsB w.drew g l := h

theorem CellsB.set {w : World} {g : Nat} {l : List UInt8} (h : CellsB w g l) (x : Nat) (y : UInt8) (hx : x < l.length) : CellsB (w.setCell ⟨g, x, none⟩ (.int .u8 (y.toNat : Int))) g (l.set x y) := by
  refine ⟨by simpa using h.1, fun j hj => ⟨?_, by rw [World.frozen?_setCell]; exact (h.2 j (by simpa using hj)).2⟩⟩
  have hj' : j < l.length := by simpa using hj
  rw [List.getElem_set]
  by_cases e : x = j
  · subst e
    rw [if_pos rfl, World.cell?_setCell_same _ _ _ (by rw [(h.2 x hx).1])]
  · rw [if_neg e, World.cell?_setCell_other _ _ _ _ (by simp [e]), (h.2 j hj').1]

theorem conv_cells (w : World) (g cp n : Nat) (l : List UInt8) (h : CellsB w g l) (hn : l.length = n) : (convert 22 9 (.slice (some ⟨g, 0, none⟩) n cp)).run Tryd.prog w = .ok (.string ⟨l.toArray⟩) w := by
  subst hn
  have h := run_convert_bytes_arg (P := Tryd.prog) w 22 5 Tryd.underlying22 Tryd.underlying5 g 0 l.length cp (l.map fun b => (b.toNat : Int)) (by simp) (fun i hi => by
      rw [Nat.zero_add, (h.2 i hi).1]
      simp [List.getD, hi]) 9 Tryd.underlying9
  rw [h]
  simp [strOfNums, Function.comp_def]

theorem bytes_make (w : World) (s : ByteArray) (hs : s.size ≤ 1000) :
    ∃ v w', (convert 9 22 (.string s)).run Tryd.prog w = .ok v w' ∧ ∃ cp, v = .slice (some ⟨w.heap.size, 0, none⟩) s.size cp ∧ CellsB w' w.heap.size s.data.toList ∧ Below w.heap.size w w' := by
  have hconv := run_bytes_of_string (P := Tryd.prog) w 9 22 5 s Tryd.underlying9 Tryd.underlying22 Tryd.underlying5
  obtain ⟨w1, hw1⟩ : ∃ w1, w1 = (w.drew.alloc (.cells (bytesRow s (grownCap w s.size 0 5)) 5 ((bytesRow s (grownCap w s.size 0 5)).size, (bytesRow s (grownCap w s.size 0 5)).size + 1))) := ⟨_, rfl⟩
  obtain ⟨cp, hcp⟩ : ∃ cp, cp = grownCap w s.size 0 5 := ⟨_, rfl⟩
  rw [← hw1, ← hcp] at hconv
  have hcl : s.size ≤ cp := by rw [hcp]; exact grownCap_ge _ _ _ _
  have hh : w1.heap[w.heap.size]? = some (.cells (bytesRow s cp) 5 ((bytesRow s cp).size, (bytesRow s cp).size + 1)) := by rw [hw1, ← hcp]; exact heap_alloc_new w.drew _
  have hbs : (bytesRow s cp).size = cp := by
    have : s.data.size = s.size := rfl
    simp [bytesRow]; omega
  refine ⟨_, w1, hconv, cp, rfl, ⟨lt_of_heap hh, fun j hj => ⟨?_, ?_⟩⟩, ?_⟩
  · have hj' : j < s.data.size := by simpa using hj
    rw [Lib.cell_of_heap hh]
    have hj2 : j < s.size := hj'
    simp [bytesRow, hj2, Array.getElem?_append]
  · have hj' : j < s.size := by
      have : j < s.data.size := by simpa using hj
      exact this
    have : ¬ (bytesRow s cp).size ≤ j := by omega
    simp [World.frozen?, hh, this]
  · rw [hw1]
    exact Below.alloc (w := w.drew) (Below.refl w.heap.size w).drew (Nat.le_refl _) _

theorem strAt2 (W : World) (s t : ByteArray) : StrAt (W.alloc (.cells #[.string s, .string t] 9)).drew (some ⟨W.heap.size, 0, none⟩) [s, t] := by
  have hh : (W.alloc (.cells #[.string s, .string t] 9)).drew.heap[W.heap.size]? = some (.cells #[.string s, .string t] 9 (0, 0)) := heap_alloc_new W _
  intro j hj
  refine ⟨W.heap.size, 0, rfl, lt_of_heap hh, ?_⟩
  rw [Lib.cell_of_heap hh]
  match j, hj with
  | 0, _ => rfl
  | 1, _ => rfl

end Go.Proofs.YtidkbpcceoocaaaDoor
