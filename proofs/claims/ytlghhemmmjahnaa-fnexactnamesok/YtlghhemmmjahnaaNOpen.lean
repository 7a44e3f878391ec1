/- A row of attrs among the arguments, opened. -/
import Derived.Test.YtlghhemmmjahnaaNAt
import Derived.Lib.SmallJoins
import Derived.Deep.SlicePairs
import Derived.ProofKit
import Derived.OpenShut
namespace Go.Proofs.Ytlghhemmmjahnaa
open Go.ChangeShapes Go.WideShapes Go.ChangeAt Go.RowKit
set_option linter.unusedVariables false

def strVN (v : Value) : ByteArray := match v with | .string s => s | _ => ByteArray.empty

/-- A slice of attrs that can be read, by the cell that it lies in. -/
theorem attrs_of {H : Type} {enc : TypeId × Value → H} {W : World} {fuel : Nat} {v : Value} {x : DataW H × List MemPlace}
    (h : DataW.trod enc Try.prog W 0 (fun _ => true) true fuel 64 [v] = some x) (hlt : ∀ y ∈ x.2, y.block < W.heap.size) :
    ∃ (a : Option Addr) (cap : Nat) (l : List At), v = .slice a l.length cap ∧ l.length ≤ maxLen ∧ AtRow W a l ∧ AtSz maxLen l := by
  rcases Deep.open_slice_pairs Try.underlying64 Try.underlying117 (by kernel_rfl) rfl rfl (by kernel_rfl) (by kernel_rfl) h with ⟨hcs, hx⟩ | ⟨a, len, cap, m, n, V0, V1, D0, D1, P0, P1, hcs, _, hl, hm, hmm, hx, hall⟩
  · simp only [List.cons.injEq, and_true] at hcs
    subst hcs
    exact ⟨none, 0, [], rfl, by simp, fun j h => by simp at h, fun s h => by simp at h⟩
  · simp only [List.cons.injEq, and_true] at hcs
    subst hcs
    simp only [if_true] at hmm
    subst hmm
    have each : ∀ i, i < len → (V0 i = .string (strVN (V0 i)) ∧ V1 i = .string (strVN (V1 i))) ∧ (strVN (V0 i)).size ≤ maxLen ∧ (strVN (V1 i)).size ≤ maxLen := by
      intro i hi
      obtain ⟨_, _, t0, t1⟩ := hall i (by omega)
      obtain ⟨s, hs, _, ws⟩ := DataW.trod_string Try.underlying9 t0
      obtain ⟨u, hu, _, wu⟩ := DataW.trod_string Try.underlying9 t1
      simp only [List.cons.injEq, and_true] at hs hu
      rw [hs, hu]
      exact ⟨⟨rfl, rfl⟩, ws, wu⟩
    refine ⟨some a, m, (List.range len).map fun i => ⟨strVN (V0 i), strVN (V1 i)⟩, by simp, by simp; omega, fun j hj => ?_, fun y hy => ?_⟩
    · simp only [List.length_map, List.length_range] at hj
      obtain ⟨b, off, spot⟩ := a
      have hc := hall j (by omega)
      have hspot : spot = none := by simpa [Addr.add] using World.cell?_spot (hall 0 (by omega)).1
      subst hspot
      have e := each j hj
      have c1 := hc.1
      have c2 := hc.2.1
      rw [add_plain] at c1 c2
      refine ⟨b, off, rfl, hlt (.cell b off) (by rw [hx]; exact List.mem_append_left _ (MemPlace.mem_row.2 ⟨0, by omega, by simp⟩)), ?_, ?_⟩
      · rw [c1, e.1.1]; simp [strVN]
      · rw [← Nat.add_assoc] at c2
        rw [c2, e.1.2]; simp [strVN]
    · obtain ⟨i, hi, rfl⟩ := List.mem_map.1 hy
      exact (each i (List.mem_range.1 hi)).2

theorem attrs_arg {H : Type} {enc : TypeId × Value → H} {W : World} {v : Value} {d : DataW H} {p : List MemPlace}
    (h : DataW.Trod enc Try.prog W 0 (fun _ => true) true 64 v d p) (hv : ∃ a len cap, v = .slice a len cap) (hlt : ∀ y ∈ p, y.block < W.heap.size) :
    ∃ (a : Option Addr) (cap : Nat) (l : List At), v = .slice a l.length cap ∧ l.length ≤ maxLen ∧ AtRow W a l ∧ AtSz maxLen l := by
  obtain ⟨fuel, hf⟩ := h
  obtain ⟨a, len, cap, rfl⟩ := hv
  exact attrs_of (x := (d, p)) (by simpa [Value.cells] using hf) hlt

end Go.Proofs.Ytlghhemmmjahnaa
