/- A row of nodes among the arguments, opened. -/
import Derived.Test.YtlghhemmmjahnaaNRow
import Derived.Test.YtlghhemmmjahnaaNOpen
import Derived.ProofKit
import Derived.OpenShut
namespace Go.Proofs.Ytlghhemmmjahnaa.Nd
open Go.ChangeShapes Go.WideShapes Go.ChangeAt Go.RowKit
set_option linter.unusedVariables false

set_option maxRecDepth 100000 in
theorem rows_of {H : Type} {enc : TypeId × Value → H} {W : World} {fuel : Nat} {v : Value} {x : DataW H × List MemPlace}
    (h : DataW.trod enc Try.prog W 0 (fun _ => true) true fuel 39 [v] = some x) (hlt : ∀ y ∈ x.2, y.block < W.heap.size) :
    ∃ (a : Option Addr) (cap : Nat) (ts : List Tk), v = .slice a ts.length cap ∧ ts.length ≤ maxLen ∧ TkRow W a ts ∧ TksSz maxLen ts ∧ ∀ t ∈ ts, (Lit.int .i64 t.kind).wf = true := by
  rcases Deep.open_slice Try.underlying39 h with ⟨hcs, hx⟩ | ⟨a, len, cap, m, n, D, Pl, hcs, _, hl, hm, hmm, hx, hall⟩
  · simp only [List.cons.injEq, and_true] at hcs
    subst hcs
    exact ⟨none, 0, [], rfl, by simp, fun j h => by simp at h, fun s h => by simp at h, fun s h => by simp at h⟩
  · simp only [List.cons.injEq, and_true] at hcs
    subst hcs
    simp only [if_true] at hmm
    subst hmm
    have ce : Try.prog.cellsOf 66 = 4 := by kernel_rfl
    have cA : Try.prog.cellsOf 64 = 1 := by kernel_rfl
    have cI : Try.prog.cellsOf 2 = 1 := by kernel_rfl
    have cS : Try.prog.cellsOf 9 = 1 := by kernel_rfl
    have each : ∀ i, i < m → ∃ q : Tk × Option Addr × Nat, W.cell? (a.add (i * 4)) = some (.int .i64 q.1.kind) ∧ W.cell? (a.add (i * 4 + 1)) = some (.string q.1.name) ∧ W.cell? (a.add (i * 4 + 2)) = some (.slice q.2.1 q.1.attrs.length q.2.2) ∧ W.cell? (a.add (i * 4 + 3)) = some (.string q.1.text)
        ∧ AtRow W q.2.1 q.1.attrs ∧ TkSz maxLen q.1 ∧ (Lit.int .i64 q.1.kind).wf = true := by
      intro i hi
      obtain ⟨cs', h1, h2⟩ := hall i hi
      rw [ce] at h1
      obtain ⟨_, hlen, hcell⟩ := World.cells?_some h1
      obtain ⟨xs, k, hk, hxy, _, hxl, hf⟩ := DataW.trod_struct Try.underlying66 h2
      have hpl : ∀ y ∈ Pl i, y.block < W.heap.size := fun y hy => hlt y (by rw [hx]; exact List.mem_append_right _ (List.mem_flatMap.2 ⟨i, List.mem_range.2 hi, hy⟩))
      match xs, hxl, cs', hlen with
      | [y0, y1, y2, y3], _, [v0, v1, v2, v3], _ =>
        have g0 := hf 0 _ rfl
        have g1 := hf 1 _ rfl
        have g2 := hf 2 _ rfl
        have g3 := hf 3 _ rfl
        simp [cA, cI, cS] at g0 g1 g2 g3
        have e0 := hcell 0 (by omega)
        have e1 := hcell 1 (by omega)
        have e2 := hcell 2 (by omega)
        have e3 := hcell 3 (by omega)
        rw [Deep.add_add] at e0 e1 e2 e3
        simp only [Prod.mk.injEq] at hxy
        obtain ⟨k0, hk0, _, wk⟩ := DataW.trod_int Try.underlying2 g0
        obtain ⟨s, hs, _, ws⟩ := DataW.trod_string Try.underlying9 g1
        obtain ⟨u, hu, _, wu⟩ := DataW.trod_string Try.underlying9 g3
        obtain ⟨aa, ca, l, rfl, wn, wr, wz⟩ := attrs_of g2 (fun y hy => hpl y (by rw [hxy.2]; simp [hy]))
        simp only [List.cons.injEq, and_true] at hk0 hs hu
        subst hk0 hs hu
        exact ⟨(⟨k0, s, l, u⟩, aa, ca), by simpa using e0, by simpa using e1, by simpa using e2, by simpa using e3, wr, ⟨ws, wn, wz, wu⟩, wk⟩
    haveI : Inhabited (Tk × Option Addr × Nat) := ⟨(⟨0, ⟨#[]⟩, [], ⟨#[]⟩⟩, none, 0)⟩
    obtain ⟨q, hq⟩ := Deep.choose_lt each
    refine ⟨some a, m, (List.range len).map fun i => (q i).1, by simp, by simp; omega, fun j hj => ?_, fun y hy => ?_, fun y hy => ?_⟩
    · simp only [List.length_map, List.length_range] at hj
      obtain ⟨b, off, spot⟩ := a
      obtain ⟨c0, c1, c2, c3, cr, _⟩ := hq j (by omega)
      have hspot : spot = none := by simpa [Addr.add] using World.cell?_spot (hq 0 (by omega)).1
      subst hspot
      rw [add_plain] at c0 c1 c2 c3
      refine ⟨b, off, (q j).2.1, (q j).2.2, rfl, hlt (.cell b off) (by rw [hx, ce]; exact List.mem_append_left _ (MemPlace.mem_row.2 ⟨0, by omega, by simp⟩)), ?_, ?_, ?_, ?_, ?_⟩
      · rw [c0]; simp
      · rw [← Nat.add_assoc] at c1; rw [c1]; simp
      · rw [← Nat.add_assoc] at c2; rw [c2]; simp
      · rw [← Nat.add_assoc] at c3; rw [c3]; simp
      · simpa using cr
    · obtain ⟨i, hi, rfl⟩ := List.mem_map.1 hy
      exact (hq i (by have := List.mem_range.1 hi; omega)).2.2.2.2.2.1
    · obtain ⟨i, hi, rfl⟩ := List.mem_map.1 hy
      exact (hq i (by have := List.mem_range.1 hi; omega)).2.2.2.2.2.2

theorem rows_arg {H : Type} {enc : TypeId × Value → H} {W : World} {v : Value} {d : DataW H} {p : List MemPlace}
    (h : DataW.Trod enc Try.prog W 0 (fun _ => true) true 39 v d p) (hv : ∃ a len cap, v = .slice a len cap) (hlt : ∀ y ∈ p, y.block < W.heap.size) :
    ∃ (a : Option Addr) (cap : Nat) (ts : List Tk), v = .slice a ts.length cap ∧ ts.length ≤ maxLen ∧ TkRow W a ts ∧ TksSz maxLen ts ∧ ∀ t ∈ ts, (Lit.int .i64 t.kind).wf = true := by
  obtain ⟨fuel, hf⟩ := h
  obtain ⟨a, len, cap, rfl⟩ := hv
  exact rows_of (x := (d, p)) (by simpa [Value.cells] using hf) hlt

end Go.Proofs.Ytlghhemmmjahnaa.Nd
