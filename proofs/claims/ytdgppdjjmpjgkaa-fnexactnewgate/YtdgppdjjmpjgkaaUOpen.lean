/- A table among the arguments, opened. -/
import Derived.Test.YtdgppdjjmpjgkaaUMath
import Derived.Lib.SmallJoins
import Derived.Deep.SlicePairs
import Derived.ProofKit
import Derived.OpenShut
namespace Go.Proofs.Ytdgppdjjmpjgkaa
open Go.ChangeShapes Go.WideShapes Go.ChangeAt Go.RowKit
set_option linter.unusedVariables false

def strVU (v : Value) : ByteArray := match v with | .string s => s | _ => ByteArray.empty
def intVU (v : Value) : Int := match v with | .int _ x => x | _ => 0

/-- A slice of rows that can be read, by the cell that it lies in. -/
theorem ros_of {H : Type} {enc : TypeId × Value → H} {W : World} {fuel : Nat} {v : Value} {x : DataW H × List MemPlace}
    (h : DataW.trod enc Try.prog W 0 (fun _ => true) true fuel 23 [v] = some x) (hlt : ∀ y ∈ x.2, y.block < W.heap.size) :
    ∃ (a : Option Addr) (cap : Nat) (l : List Ro), v = .slice a l.length cap ∧ l.length ≤ maxLen ∧ RoRow W a l ∧ RoSz maxLen l ∧ ∀ y ∈ l, (Lit.int .i64 y.til).wf = true := by
  rcases Deep.open_slice_pairs Try.underlying23 Try.underlying90 (by kernel_rfl) rfl rfl (by kernel_rfl) (by kernel_rfl) h with ⟨hcs, hx⟩ | ⟨a, len, cap, m, n, V0, V1, D0, D1, P0, P1, hcs, _, hl, hm, hmm, hx, hall⟩
  · simp only [List.cons.injEq, and_true] at hcs
    subst hcs
    exact ⟨none, 0, [], rfl, by simp, fun j h => by simp at h, fun s h => by simp at h, fun s h => by simp at h⟩
  · simp only [List.cons.injEq, and_true] at hcs
    subst hcs
    simp only [if_true] at hmm
    subst hmm
    have each : ∀ i, i < len → (V0 i = .string (strVU (V0 i)) ∧ V1 i = .int .i64 (intVU (V1 i))) ∧ (strVU (V0 i)).size ≤ maxLen ∧ (Lit.int .i64 (intVU (V1 i))).wf = true := by
      intro i hi
      obtain ⟨_, _, t0, t1⟩ := hall i (by omega)
      obtain ⟨s, hs, _, ws⟩ := DataW.trod_string Try.underlying9 t0
      obtain ⟨u, hu, _, wu⟩ := DataW.trod_int Try.underlying2 t1
      simp only [List.cons.injEq, and_true] at hs hu
      rw [hs, hu]
      exact ⟨⟨rfl, rfl⟩, ws, wu⟩
    refine ⟨some a, m, (List.range len).map fun i => ⟨strVU (V0 i), intVU (V1 i)⟩, by simp, by simp; omega, fun j hj => ?_, fun y hy => ?_, fun y hy => ?_⟩
    · simp only [List.length_map, List.length_range] at hj
      obtain ⟨b, off, spot⟩ := a
      have hc := hall j (by omega)
      have hspot : spot = none := by simpa [Addr.add] using World.cell?_spot (hall 0 (by omega)).1
      subst hspot
      have e := each j hj
      have c1 := hc.1
      have c2 := hc.2.1
      rw [add_plain] at c1 c2
      refine ⟨b, off, rfl, hlt (.cell b off) (by rw [hx]; exact List.mem_append_left _ (MemPlace.mem_row.2 ⟨0, by omega, by simp⟩)), ?_, ?_⟩
      · rw [c1, e.1.1]; simp [strVU]
      · rw [← Nat.add_assoc] at c2
        rw [c2, e.1.2]; simp [intVU]
    · obtain ⟨i, hi, rfl⟩ := List.mem_map.1 hy
      exact (each i (List.mem_range.1 hi)).2.1
    · obtain ⟨i, hi, rfl⟩ := List.mem_map.1 hy
      exact (each i (List.mem_range.1 hi)).2.2

theorem twoU {α : Type} : ∀ {l : List α}, l.length = 2 → ∃ c0 c1, l = [c0, c1]
  | [c0, c1], _ => ⟨c0, c1, rfl⟩

set_option maxRecDepth 100000 in
theorem table_of {H : Type} {enc : TypeId × Value → H} {W : World} {base : Nat} {v : Value} {d : DataW H} {p : List MemPlace}
    (hv : Value.okWide Try.prog W .any base 25 v) (h : DataW.Trod enc Try.prog W 0 (fun _ => true) true 25 v d p) (hlt : ∀ y ∈ p, y.block < W.heap.size) :
    ∃ (t : Tb) (a : Option Addr) (cap : Nat), v = tbV t a cap ∧ RoRow W a t.rows ∧ RoSz maxLen t.rows ∧ t.rows.length ≤ maxLen ∧ (Lit.int .i64 t.most).wf = true ∧ ∀ y ∈ t.rows, (Lit.int .i64 y.til).wf = true := by
  obtain ⟨⟨cs⟩, rfl, hsz⟩ := okWide_struct Try.underlying25 hv
  obtain ⟨c0, c1, rfl⟩ := twoU (hsz.trans (by kernel_rfl))
  obtain ⟨fuel, hf⟩ := h
  obtain ⟨xs, n, _, hx, _, hlen, hg⟩ := DataW.trod_struct Try.underlying25 hf
  obtain ⟨y0, y1, rfl⟩ := twoU (hlen.trans rfl)
  simp only [Prod.mk.injEq] at hx
  obtain ⟨_, hp⟩ := hx
  have kI : Try.prog.cellsOf 2 = 1 := by kernel_rfl
  have kA : Try.prog.cellsOf 23 = 1 := by kernel_rfl
  have g0 : DataW.trod enc Try.prog W 0 (fun _ => true) true n 2 (List.take (Try.prog.cellsOf 2) (List.drop 0 [c0, c1])) = some y0 := hg 0 _ rfl
  have g1 : DataW.trod enc Try.prog W 0 (fun _ => true) true n 23 (List.take (Try.prog.cellsOf 23) (List.drop 1 [c0, c1])) = some y1 := hg 1 _ rfl
  rw [kI] at g0
  rw [kA] at g1
  simp only [List.drop, List.take] at g0 g1
  obtain ⟨x0, e0, _, w0⟩ := DataW.trod_int Try.underlying2 g0
  obtain ⟨a, cap, l, rfl, wn, wr, wz, wf⟩ := ros_of g1 (fun y hy => hlt y (by rw [hp]; simp [hy]))
  simp only [List.cons.injEq, and_true] at e0
  subst e0
  exact ⟨⟨x0, l⟩, a, cap, rfl, wr, wz, wn, w0, wf⟩

end Go.Proofs.Ytdgppdjjmpjgkaa
