/-  -/
import Derived.Test.YtlpbbkaelbafdaaGreatDoorM1
import Derived.Lib.SmallJoins
import Derived.Deep.SlicePairs
import Derived.ProofKit
import Derived.OpenShut
set_option linter.unusedVariables false
set_option linter.unusedSimpArgs false
namespace Go.Proofs.YtlpbbkaelbafdaaGreatDoor
open Go.ChangeShapes Go.WideShapes Go.ChangeAt Go.RowKit

def strVN (v : Value) : ByteArray := match v with | .string s => s | _ => ByteArray.empty

end Go.Proofs.YtlpbbkaelbafdaaGreatDoor

namespace Go.Proofs.YtlpbbkaelbafdaaGreatDoor
open Go.RowKit

structure Tk where
 kind : Int
 name : ByteArray
 attrs : List At
 text : ByteArray

abbrev tkV (t : Tk) (a : Option Addr) (cap : Nat) : Value := .agg #[.int .i64 t.kind, .string t.name, .slice a t.attrs.length cap, .string t.text]

def TkSz (n : Nat) (t : Tk) : Prop := t.name.size <= n /\ t.attrs.length <= n /\ AtSz n t.attrs /\ t.text.size <= n

theorem heap3 (w : World) (A B C : Obj) : (((w.alloc A).alloc B).alloc C).heap[w.heap.size]? = some A /\ (((w.alloc A).alloc B).alloc C).heap[w.heap.size + 1]? = some B /\ (((w.alloc A).alloc B).alloc C).heap[w.heap.size + 2]? = some C := by
 have s1 : (w.alloc A).heap.size = w.heap.size + 1 := by simp
 have s2 : ((w.alloc A).alloc B).heap.size = w.heap.size + 2 := by simp
 refine ⟨?_, ?_, ?_⟩
 ·rw [Below.heap_alloc _ _ _ (by omega), Below.heap_alloc _ _ _ (by omega)]
  exact heap_alloc_new w A
 ·rw [Below.heap_alloc _ _ _ (by omega), <- s1]
  exact heap_alloc_new _ B
 ·rw [<- s2]
  exact heap_alloc_new _ C

theorem box4 {w : World} {g : Nat} {x y z u : Value} {T : TypeId} (h : w.heap[g]? = some (.cells #[x, y, z, u] T (0, 0))) :
  (w.cell? ⟨g, 0, none⟩ = some x /\ w.cell? ⟨g, 1, none⟩ = some y /\ w.cell? ⟨g, 2, none⟩ = some z /\ w.cell? ⟨g, 3, none⟩ = some u) /\ (w.frozen? ⟨g, 0, none⟩ = false /\ w.frozen? ⟨g, 1, none⟩ = false /\ w.frozen? ⟨g, 2, none⟩ = false /\ w.frozen? ⟨g, 3, none⟩ = false) :=
 ⟨⟨by rw [Lib.cell_of_heap h]; rfl, by rw [Lib.cell_of_heap h]; rfl, by rw [Lib.cell_of_heap h]; rfl, by rw [Lib.cell_of_heap h]; rfl⟩, Lib.frozen_of_heap h 0, Lib.frozen_of_heap h 1, Lib.frozen_of_heap h 2, Lib.frozen_of_heap h 3⟩

theorem AtRow.setCell {w : World} {g o : Nat} {l : List At} (h : AtRow w (some ⟨g, o, none⟩) l) {p : Addr} (hne : ¬ g = p.block) (v : Value) : AtRow (w.setCell p v) (some ⟨g, o, none⟩) l := by
 intro j hj
 obtain ⟨b, o', e, hlt, c1, c2⟩ := h j hj
 cases e
 have hb := Below.heap_setCell w p v g hne
 refine ⟨g, o, rfl, lt_of_heap (hb.trans (Array.getElem?_eq_getElem hlt)), ?_, ?_⟩
 ·rw [World.cell?_of_block (w := w) hb]; exact c1
 ·rw [World.cell?_of_block (w := w) hb]; exact c2

theorem blk_below {w w1 : World} {B : Nat} {o : Obj} (h : w.heap[B]? = some o) (k : Below w.heap.size w w1) : w1.heap[B]? = some o := (k.block B (lt_of_heap h)).trans h

theorem blk_alloc {w : World} {B : Nat} {o : Obj} (h : w.heap[B]? = some o) (o' : Obj) : (w.alloc o').heap[B]? = some o := (Below.heap_alloc w o' B (lt_of_heap h)).trans h

end Go.Proofs.YtlpbbkaelbafdaaGreatDoor

namespace Go.Proofs.YtlpbbkaelbafdaaGreatDoor
open Go.RowKit

def digB (k : Nat) : UInt8 := UInt8.ofNat (48 + k % 10)

def decB (k : Nat) (out : ByteArray) : ByteArray := if h : k = 0 then out else decB (k / 10) ((⟨#[digB k]⟩ : ByteArray) ++ out)
termination_by k
decreasing_by omega

theorem decB_zero (out : ByteArray) : decB 0 out = out := by unfold decB; simp

theorem decB_step {k : Nat} (h : ¬ k = 0) (out : ByteArray) : decB k out = decB (k / 10) ((⟨#[digB k]⟩ : ByteArray) ++ out) := by rw [decB]; simp [h]

def markS (k : Nat) : ByteArray := if k = 0 then ⟨#[109, 48]⟩ else (⟨#[109]⟩ : ByteArray) ++ decB k ⟨#[]⟩

theorem decB_size : ∀ (k : Nat) (out : ByteArray), (decB k out).size <= k + out.size := by
 intro k
 induction k using Nat.strongRecOn with
 | _ k ih =>
  intro out
  by_cases h : k = 0
  ·subst h; rw [decB_zero]; omega
  ·rw [decB_step h]
   have := ih (k / 10) (by omega) ((⟨#[digB k]⟩ : ByteArray) ++ out)
   rw [ByteArray.size_append, show (⟨#[digB k]⟩ : ByteArray).size = 1 from rfl] at this
   omega

theorem markS_size (k : Nat) : (markS k).size <= k + 2 := by
 unfold markS
 split
 ·show 2 <= k + 2
  omega
 ·rw [ByteArray.size_append, show (⟨#[109]⟩ : ByteArray).size = 1 from rfl]
  have := decB_size k ⟨#[]⟩
  rw [show (⟨#[]⟩ : ByteArray).size = 0 from rfl] at this
  omega

theorem conv1 (W : World) (b : UInt8) : (convert 22 9 (.slice (some ⟨W.heap.size, 0, none⟩) 1 1)).run Tryz.prog (W.alloc (.cells #[.int .u8 b.toNat] 5)) = .ok (.string ⟨#[b]⟩) (W.alloc (.cells #[.int .u8 b.toNat] 5)) := by
 have hown : (W.alloc (.cells #[.int .u8 b.toNat] 5)).ownsRow 0 5 1 (.slice (some ⟨W.heap.size, 0, none⟩) [b].length 1) [b].length (Lib.byteCells [b]) :=
  ⟨rfl, .inr ⟨W.heap.size, 1, #[.int .u8 b.toNat], rfl, Nat.zero_le _, heap_alloc_new W _, Nat.le_refl _, by decide, rfl, rfl⟩⟩
 exact run_str_own (P := Tryz.prog) (src := 22) (dst := 9) Tryz.underlying22 Tryz.underlying5 Tryz.underlying9 hown

theorem dig_wrap (k : Nat) : IntKind.u8.wrap (48 + (k : Int) % 10) = ((digB k).toNat : Int) := by
 have e : (digB k).toNat = 48 + k % 10 := by
  unfold digB
  rw [UInt8.toNat_ofNat']
  omega
 rw [e]
 rw [show (48 : Int) + (k : Int) % 10 = ((48 + k % 10 : Nat) : Int) by omega]
 exact IntWalk.u8_in _ (by omega)

end Go.Proofs.YtlpbbkaelbafdaaGreatDoor

namespace Go.Proofs.YtlpbbkaelbafdaaGreatDoor
open Go.RowKit

theorem gr_trans {w w1 w2 : World} {row : Option Nat} (h : w.grownBy w1 row) (k : w1.grownBy w2 row) : w.grownBy w2 row :=
 ⟨k.os.trans h.os, k.tape.trans h.tape, k.output.trans h.output, Nat.le_trans h.size k.size, fun i hi hr => (k.block i (Nat.lt_of_lt_of_le hi h.size) hr).trans (h.block i hi hr)⟩

theorem gr_below {w w1 w2 : World} {row : Option Nat} (h : w.grownBy w1 row) (k : Below w1.heap.size w1 w2) : w.grownBy w2 row :=
 ⟨k.os.trans h.os, k.tape.trans h.tape, k.output.trans h.output, Nat.le_trans h.size k.size, fun i hi hr => (k.block i (Nat.lt_of_lt_of_le hi h.size)).trans (h.block i hi hr)⟩

theorem gr_set {w w1 : World} {b : Nat} (h : w.grownBy w1 (some b)) (j : Nat) (v : Value) : w.grownBy (w1.setCell ⟨b, j, none⟩ v) (some b) := gr_trans h (Lib.grownBy_setCell w1 b j v)

theorem heap_set {w : World} {g i : Nat} {cur : Array Value} {T : TypeId} (h : w.heap[g]? = some (.cells cur T (0, 0))) (v : Value) :
  (w.setCell ⟨g, i, none⟩ v).heap[g]? = some (.cells (cur.setIfInBounds i v) T (0, 0)) := by
 simp [World.setCell, Array.getElem?_modify, h]

theorem cell_there {w : World} {g i : Nat} {cur : Array Value} {T : TypeId} (h : w.heap[g]? = some (.cells cur T (0, 0))) (hi : i < cur.size) : ∃ v, w.cell? ⟨g, i, none⟩ = some v := by
 rw [Lib.cell_of_heap h]
 exact ⟨cur[i], Array.getElem?_eq_getElem hi⟩

def MarksA (cur : Array Value) (o n k : Nat) : Prop := ∀ j, j < n -> cur[o + j * 2]? = some (.string (markS (k + 2 * j))) /\ cur[o + j * 2 + 1]? = some (.string (markS (k + 2 * j + 1)))

end Go.Proofs.YtlpbbkaelbafdaaGreatDoor
