/- A table among the arguments, opened. Gates and hands among the arguments, opened. -/
import Derived.Test.YtnjepdggefchnaaGreatDoorM6
import Derived.Test.YtnjepdggefchnaaGreatDoorM9
import Derived.Lib.SmallJoins
import Derived.Deep.SlicePairs
import Derived.ProofKit
import Derived.OpenShut
namespace Go.Proofs.YtnjepdggefchnaaGreatDoor
open Go.ChangeShapes Go.WideShapes Go.ChangeAt Go.RowKit
set_option linter.unusedVariables false

def strVU (v : Value) : ByteArray := match v with | .string s => s | _ => ByteArray.empty
def intVU (v : Value) : Int := match v with | .int _ x => x | _ => 0

/-- A slice of rows that can be read, by the cell that it lies in. -/
theorem ros_of {H : Type} {enc : TypeId × Value → H} {W : World} {fuel : Nat} {v : Value} {x : DataW H × List MemPlace}
    (h : DataW.trod enc Tryz.prog W 0 (fun _ => true) true fuel 23 [v] = some x) (hlt : ∀ y ∈ x.2, y.block < W.heap.size) :
    ∃ (a : Option Addr) (cap : Nat) (l : List Ro), v = .slice a l.length cap ∧ l.length ≤ maxLen ∧ RoRow W a l ∧ RoSz maxLen l ∧ ∀ y ∈ l, (Lit.int .i64 y.til).wf = true := by
  rcases Deep.open_slice_pairs Tryz.underlying23 Tryz.underlying94 (by kernel_rfl) rfl rfl (by kernel_rfl) (by kernel_rfl) h with ⟨hcs, hx⟩ | ⟨a, len, cap, m, n, V0, V1, D0, D1, P0, P1, hcs, _, hl, hm, hmm, hx, hall⟩
  · simp only [List.cons.injEq, and_true] at hcs
    subst hcs
    exact ⟨none, 0, [], rfl, by simp, fun j h => by simp at h, fun s h => by simp at h, fun s h => by simp at h⟩
  · simp only [List.cons.injEq, and_true] at hcs
    subst hcs
    simp only [if_true] at hmm
    subst hmm
    have each : ∀ i, i < len → (V0 i = .string (strVU (V0 i)) ∧ V1 i = .int .i64 (intVU (V1 i))) ∧ (strVU (V0 i)).size ≤ maxLen ∧ (Lit.int .i64 (intVU (V1 i))).wf = true := by
      intro i hi
      obtain ⟨_, _, t0, t1⟩ := hall i (by omega)
      obtain ⟨s, hs, _, ws⟩ := DataW.trod_string Tryz.underlying9 t0
      obtain ⟨u, hu, _, wu⟩ := DataW.trod_int Tryz.underlying2 t1
      simp only [List.cons.injEq, and_true] at hs hu
      rw [hs, hu]
      exact ⟨⟨rfl, rfl⟩, ws, wu⟩
    refine ⟨some a, m, (List.range len).map fun i => ⟨strVU (V0 i), intVU (V1 i)⟩, by simp, by simp; omega, fun j hj => ?_, fun y hy => ?_, fun y hy => ?_⟩
    · simp only [List.length_map, List.length_range] at hj
      obtain ⟨b, off, spot⟩ := a
      have hc := hall j (by omega)
      have hspot : spot = none := by simpa [Addr.add] using World.cell?_spot (hall 0 (by omega)).1
      subst hspot
      have e := each j hj
      have c1 := hc.1
      have c2 := hc.2.1
      rw [add_plain] at c1 c2
      refine ⟨b, off, rfl, hlt (.cell b off) (by rw [hx]; exact List.mem_append_left _ (MemPlace.mem_row.2 ⟨0, by omega, by simp⟩)), ?_, ?_⟩
      · rw [c1, e.1.1]; simp [strVU]
      · rw [← Nat.add_assoc] at c2
        rw [c2, e.1.2]; simp [intVU]
    · obtain ⟨i, hi, rfl⟩ := List.mem_map.1 hy
      exact (each i (List.mem_range.1 hi)).2.1
    · obtain ⟨i, hi, rfl⟩ := List.mem_map.1 hy
      exact (each i (List.mem_range.1 hi)).2.2

theorem twoU {α : Type} : ∀ {l : List α}, l.length = 2 → ∃ c0 c1, l = [c0, c1]
  | [c0, c1], _ => ⟨c0, c1, rfl⟩

set_option maxRecDepth 100000 in
theorem table_of {H : Type} {enc : TypeId × Value → H} {W : World} {base : Nat} {v : Value} {d : DataW H} {p : List MemPlace}
    (hv : Value.okWide Tryz.prog W .any base 25 v) (h : DataW.Trod enc Tryz.prog W 0 (fun _ => true) true 25 v d p) (hlt : ∀ y ∈ p, y.block < W.heap.size) :
    ∃ (t : Tb) (a : Option Addr) (cap : Nat), v = tbV t a cap ∧ RoRow W a t.rows ∧ RoSz maxLen t.rows ∧ t.rows.length ≤ maxLen ∧ (Lit.int .i64 t.most).wf = true ∧ ∀ y ∈ t.rows, (Lit.int .i64 y.til).wf = true := by
  obtain ⟨⟨cs⟩, rfl, hsz⟩ := okWide_struct Tryz.underlying25 hv
  obtain ⟨c0, c1, rfl⟩ := twoU (hsz.trans (by kernel_rfl))
  obtain ⟨fuel, hf⟩ := h
  obtain ⟨xs, n, _, hx, _, hlen, hg⟩ := DataW.trod_struct Tryz.underlying25 hf
  obtain ⟨y0, y1, rfl⟩ := twoU (hlen.trans rfl)
  simp only [Prod.mk.injEq] at hx
  obtain ⟨_, hp⟩ := hx
  have kI : Tryz.prog.cellsOf 2 = 1 := by kernel_rfl
  have kA : Tryz.prog.cellsOf 23 = 1 := by kernel_rfl
  have g0 : DataW.trod enc Tryz.prog W 0 (fun _ => true) true n 2 (List.take (Tryz.prog.cellsOf 2) (List.drop 0 [c0, c1])) = some y0 := hg 0 _ rfl
  have g1 : DataW.trod enc Tryz.prog W 0 (fun _ => true) true n 23 (List.take (Tryz.prog.cellsOf 23) (List.drop 1 [c0, c1])) = some y1 := hg 1 _ rfl
  rw [kI] at g0
  rw [kA] at g1
  simp only [List.drop, List.take] at g0 g1
  obtain ⟨x0, e0, _, w0⟩ := DataW.trod_int Tryz.underlying2 g0
  obtain ⟨a, cap, l, rfl, wn, wr, wz, wf⟩ := ros_of g1 (fun y hy => hlt y (by rw [hp]; simp [hy]))
  simp only [List.cons.injEq, and_true] at e0
  subst e0
  exact ⟨⟨x0, l⟩, a, cap, rfl, wr, wz, wn, w0, wf⟩

end Go.Proofs.YtnjepdggefchnaaGreatDoor

namespace Go.Proofs.YtnjepdggefchnaaGreatDoor
open Go.ChangeShapes Go.WideShapes Go.ChangeAt Go.RowKit
set_option linter.unusedVariables false

set_option maxRecDepth 100000 in
theorem hands_of {H : Type} {enc : TypeId × Value → H} {W : World} {fuel : Nat} {v : Value} {x : DataW H × List MemPlace}
    (h : DataW.trod enc Tryz.prog W 0 (fun _ => true) true fuel 22 [v] = some x) (hlt : ∀ y ∈ x.2, y.block < W.heap.size) :
    ∃ (a : Option Addr) (cap : Nat) (l : List Hd), v = .slice a l.length cap ∧ l.length ≤ maxLen ∧ HdRow W a l ∧ HdSz maxLen l ∧ ∀ y ∈ l, (Lit.int .i64 y.n).wf = true ∧ (Lit.int .i64 y.e).wf = true ∧ (Lit.int .i64 y.d).wf = true := by
  rcases Deep.open_slice Tryz.underlying22 h with ⟨hcs, hx⟩ | ⟨a, len, cap, m, n, D, Pl, hcs, _, hl, hm, hmm, hx, hall⟩
  · simp only [List.cons.injEq, and_true] at hcs
    subst hcs
    exact ⟨none, 0, [], rfl, by simp, fun j h => by simp at h, fun s h => by simp at h, fun s h => by simp at h⟩
  · simp only [List.cons.injEq, and_true] at hcs
    subst hcs
    simp only [if_true] at hmm
    subst hmm
    have ce : Tryz.prog.cellsOf 65 = 4 := by kernel_rfl
    have cK : Tryz.prog.cellsOf 63 = 3 := by kernel_rfl
    have cI : Tryz.prog.cellsOf 2 = 1 := by kernel_rfl
    have cS : Tryz.prog.cellsOf 9 = 1 := by kernel_rfl
    have each : ∀ i, i < m → ∃ q : Hd, W.cell? (a.add (i * 4)) = some (.string q.iss) ∧ W.cell? (a.add (i * 4 + 1)) = some (.int .i64 q.n) ∧ W.cell? (a.add (i * 4 + 2)) = some (.int .i64 q.e) ∧ W.cell? (a.add (i * 4 + 3)) = some (.int .i64 q.d)
        ∧ q.iss.size ≤ maxLen ∧ (Lit.int .i64 q.n).wf = true ∧ (Lit.int .i64 q.e).wf = true ∧ (Lit.int .i64 q.d).wf = true := by
      intro i hi
      obtain ⟨cs', h1, h2⟩ := hall i hi
      rw [ce] at h1
      obtain ⟨_, hlen, hcell⟩ := World.cells?_some h1
      obtain ⟨xs, k, hk, hxy, _, hxl, hf⟩ := DataW.trod_struct Tryz.underlying65 h2
      match xs, hxl, cs', hlen with
      | [y0, y1], _, [v0, v1, v2, v3], _ =>
        have g0 := hf 0 _ rfl
        have g1 := hf 1 _ rfl
        simp [cK, cS] at g0 g1
        have e0 := hcell 0 (by omega)
        have e1 := hcell 1 (by omega)
        have e2 := hcell 2 (by omega)
        have e3 := hcell 3 (by omega)
        rw [Deep.add_add] at e0 e1 e2 e3
        obtain ⟨s, hs, _, ws⟩ := DataW.trod_string Tryz.underlying9 g0
        obtain ⟨zs, k2, hk2, hzy, _, hzl, hf2⟩ := DataW.trod_struct Tryz.underlying63 g1
        match zs, hzl with
        | [u0, u1, u2], _ =>
          have j0 := hf2 0 _ rfl
          have j1 := hf2 1 _ rfl
          have j2 := hf2 2 _ rfl
          simp [cI] at j0 j1 j2
          obtain ⟨kn, hkn, _, wn⟩ := DataW.trod_int Tryz.underlying2 j0
          obtain ⟨ke, hke, _, we⟩ := DataW.trod_int Tryz.underlying2 j1
          obtain ⟨kd, hkd, _, wd⟩ := DataW.trod_int Tryz.underlying2 j2
          simp only [List.cons.injEq, and_true] at hs hkn hke hkd
          subst hs hkn hke hkd
          exact ⟨⟨s, kn, ke, kd⟩, by simpa using e0, by simpa using e1, by simpa using e2, by simpa using e3, ws, wn, we, wd⟩
    haveI : Inhabited Hd := ⟨⟨⟨#[]⟩, 0, 0, 0⟩⟩
    obtain ⟨q, hq⟩ := Deep.choose_lt each
    refine ⟨some a, m, (List.range len).map fun i => q i, by simp, by simp; omega, fun j hj => ?_, fun y hy => ?_, fun y hy => ?_⟩
    · simp only [List.length_map, List.length_range] at hj
      obtain ⟨b, off, spot⟩ := a
      obtain ⟨c0, c1, c2, c3, _⟩ := hq j (by omega)
      have hspot : spot = none := by simpa [Addr.add] using World.cell?_spot (hq 0 (by omega)).1
      subst hspot
      rw [add_plain] at c0 c1 c2 c3
      refine ⟨b, off, rfl, hlt (.cell b off) (by rw [hx, ce]; exact List.mem_append_left _ (MemPlace.mem_row.2 ⟨0, by omega, by simp⟩)), ?_, ?_, ?_, ?_⟩
      · rw [c0]; simp
      · rw [← Nat.add_assoc] at c1; rw [c1]; simp
      · rw [← Nat.add_assoc] at c2; rw [c2]; simp
      · rw [← Nat.add_assoc] at c3; rw [c3]; simp
    · obtain ⟨i, hi, rfl⟩ := List.mem_map.1 hy
      exact (hq i (by have := List.mem_range.1 hi; omega)).2.2.2.2.1
    · obtain ⟨i, hi, rfl⟩ := List.mem_map.1 hy
      exact (hq i (by have := List.mem_range.1 hi; omega)).2.2.2.2.2

theorem hands_arg {H : Type} {enc : TypeId × Value → H} {W : World} {v : Value} {d : DataW H} {p : List MemPlace}
    (h : DataW.Trod enc Tryz.prog W 0 (fun _ => true) true 22 v d p) (hv : ∃ a len cap, v = .slice a len cap) (hlt : ∀ y ∈ p, y.block < W.heap.size) :
    ∃ (a : Option Addr) (cap : Nat) (l : List Hd), v = .slice a l.length cap ∧ l.length ≤ maxLen ∧ HdRow W a l ∧ HdSz maxLen l ∧ ∀ y ∈ l, (Lit.int .i64 y.n).wf = true ∧ (Lit.int .i64 y.e).wf = true ∧ (Lit.int .i64 y.d).wf = true := by
  obtain ⟨fuel, hf⟩ := h
  obtain ⟨a, len, cap, rfl⟩ := hv
  exact hands_of (x := (d, p)) (by simpa [Value.cells] using hf) hlt

theorem tab_cells {H : Type} {enc : TypeId × Value → H} {W : World} {fuel : Nat} {c0 c1 : Value} {x : DataW H × List MemPlace}
    (h : DataW.trod enc Tryz.prog W 0 (fun _ => true) true fuel 25 [c0, c1] = some x) (hlt : ∀ y ∈ x.2, y.block < W.heap.size) :
    ∃ (t : Tb) (a : Option Addr) (cap : Nat), c0 = .int .i64 t.most ∧ c1 = .slice a t.rows.length cap ∧ RoRow W a t.rows ∧ RoSz maxLen t.rows ∧ t.rows.length ≤ maxLen ∧ (Lit.int .i64 t.most).wf = true ∧ ∀ y ∈ t.rows, (Lit.int .i64 y.til).wf = true := by
  obtain ⟨xs, n, _, hx, _, hlen, hg⟩ := DataW.trod_struct Tryz.underlying25 h
  obtain ⟨y0, y1, rfl⟩ := twoU (hlen.trans rfl)
  have hp : x.2 = [y0, y1].flatMap fun z => z.2 := by rw [hx]
  have kI : Tryz.prog.cellsOf 2 = 1 := by kernel_rfl
  have kA : Tryz.prog.cellsOf 23 = 1 := by kernel_rfl
  have g0 : DataW.trod enc Tryz.prog W 0 (fun _ => true) true n 2 (List.take (Tryz.prog.cellsOf 2) (List.drop 0 [c0, c1])) = some y0 := hg 0 _ rfl
  have g1 : DataW.trod enc Tryz.prog W 0 (fun _ => true) true n 23 (List.take (Tryz.prog.cellsOf 23) (List.drop 1 [c0, c1])) = some y1 := hg 1 _ rfl
  rw [kI] at g0
  rw [kA] at g1
  simp only [List.drop, List.take] at g0 g1
  obtain ⟨x0, e0, _, w0⟩ := DataW.trod_int Tryz.underlying2 g0
  obtain ⟨a, cap, l, rfl, wn, wr, wz, wf⟩ := ros_of g1 (fun y hy => hlt y (by rw [hp]; simp [hy]))
  simp only [List.cons.injEq, and_true] at e0
  subst e0
  exact ⟨⟨x0, l⟩, a, cap, rfl, rfl, wr, wz, wn, w0, wf⟩

theorem eightU {α : Type} : ∀ {l : List α}, l.length = 8 → ∃ c0 c1 c2 c3 c4 c5 c6 c7, l = [c0, c1, c2, c3, c4, c5, c6, c7]
  | [c0, c1, c2, c3, c4, c5, c6, c7], _ => ⟨c0, c1, c2, c3, c4, c5, c6, c7, rfl⟩

theorem sixU {α : Type} : ∀ {l : List α}, l.length = 6 → ∃ c0 c1 c2 c3 c4 c5, l = [c0, c1, c2, c3, c4, c5]
  | [c0, c1, c2, c3, c4, c5], _ => ⟨c0, c1, c2, c3, c4, c5, rfl⟩

/-- The numbers of a gate are numbers. -/
def GtWf (g : Gt) : Prop := (∀ y ∈ g.hands, (Lit.int .i64 y.n).wf = true ∧ (Lit.int .i64 y.e).wf = true ∧ (Lit.int .i64 y.d).wf = true) ∧ (Lit.int .i64 g.skew).wf = true ∧ (Lit.int .i64 g.now).wf = true ∧ (Lit.int .i64 g.ask.most).wf = true ∧ (∀ y ∈ g.ask.rows, (Lit.int .i64 y.til).wf = true) ∧ (Lit.int .i64 g.hrd.most).wf = true ∧ ∀ y ∈ g.hrd.rows, (Lit.int .i64 y.til).wf = true

set_option maxRecDepth 100000 in
theorem gate_of {H : Type} {enc : TypeId × Value → H} {W : World} {base : Nat} {v : Value} {d : DataW H} {p : List MemPlace}
    (hv : Value.okWide Tryz.prog W .any base 27 v) (h : DataW.Trod enc Tryz.prog W 0 (fun _ => true) true 27 v d p) (hlt : ∀ y ∈ p, y.block < W.heap.size) :
    ∃ (g : Gt) (ah : Option Addr) (ch : Nat) (aa : Option Addr) (ca : Nat) (ar : Option Addr) (cr : Nat), v = gtV g ah ch aa ca ar cr ∧ GtRow W g ah aa ar ∧ GtSz maxLen g
      ∧ GtWf g := by
  obtain ⟨⟨cs⟩, rfl, hsz⟩ := okWide_struct Tryz.underlying27 hv
  obtain ⟨c0, c1, c2, c3, c4, c5, c6, c7, rfl⟩ := eightU (hsz.trans (by kernel_rfl))
  obtain ⟨fuel, hf⟩ := h
  obtain ⟨xs, n, _, hx, _, hlen, hg⟩ := DataW.trod_struct Tryz.underlying27 hf
  obtain ⟨y0, y1, y2, y3, y4, y5, rfl⟩ := sixU (hlen.trans rfl)
  simp only [Prod.mk.injEq] at hx
  obtain ⟨_, hp⟩ := hx
  have kI : Tryz.prog.cellsOf 2 = 1 := by kernel_rfl
  have kS : Tryz.prog.cellsOf 9 = 1 := by kernel_rfl
  have kH : Tryz.prog.cellsOf 22 = 1 := by kernel_rfl
  have kT : Tryz.prog.cellsOf 25 = 2 := by kernel_rfl
  have g0 : DataW.trod enc Tryz.prog W 0 (fun _ => true) true n 9 (List.take (Tryz.prog.cellsOf 9) (List.drop 0 [c0, c1, c2, c3, c4, c5, c6, c7])) = some y0 := hg 0 _ rfl
  have g1 : DataW.trod enc Tryz.prog W 0 (fun _ => true) true n 22 (List.take (Tryz.prog.cellsOf 22) (List.drop 1 [c0, c1, c2, c3, c4, c5, c6, c7])) = some y1 := hg 1 _ rfl
  have g2 : DataW.trod enc Tryz.prog W 0 (fun _ => true) true n 2 (List.take (Tryz.prog.cellsOf 2) (List.drop 2 [c0, c1, c2, c3, c4, c5, c6, c7])) = some y2 := hg 2 _ rfl
  have g3 : DataW.trod enc Tryz.prog W 0 (fun _ => true) true n 2 (List.take (Tryz.prog.cellsOf 2) (List.drop 3 [c0, c1, c2, c3, c4, c5, c6, c7])) = some y3 := hg 3 _ rfl
  have g4 : DataW.trod enc Tryz.prog W 0 (fun _ => true) true n 25 (List.take (Tryz.prog.cellsOf 25) (List.drop 4 [c0, c1, c2, c3, c4, c5, c6, c7])) = some y4 := hg 4 _ rfl
  have g5 : DataW.trod enc Tryz.prog W 0 (fun _ => true) true n 25 (List.take (Tryz.prog.cellsOf 25) (List.drop 6 [c0, c1, c2, c3, c4, c5, c6, c7])) = some y5 := hg 5 _ rfl
  rw [kS] at g0
  rw [kH] at g1
  rw [kI] at g2 g3
  rw [kT] at g4 g5
  simp only [List.drop, List.take] at g0 g1 g2 g3 g4 g5
  obtain ⟨s, e0, _, ws⟩ := DataW.trod_string Tryz.underlying9 g0
  obtain ⟨ah, ch, l, e1, wn, wr, wz, wf⟩ := hands_of g1 (fun y hy => hlt y (by rw [hp]; simp [hy]))
  obtain ⟨sk, e2, _, wsk⟩ := DataW.trod_int Tryz.underlying2 g2
  obtain ⟨nw, e3, _, wnw⟩ := DataW.trod_int Tryz.underlying2 g3
  obtain ⟨ta, aa, ca, e4, e5, ra, za, na, ma, fa⟩ := tab_cells g4 (fun y hy => hlt y (by rw [hp]; simp [hy]))
  obtain ⟨tr, ar, cr, e6, e7, rr, zr, nr, mr, fr⟩ := tab_cells g5 (fun y hy => hlt y (by rw [hp]; simp [hy]))
  simp only [List.cons.injEq, and_true] at e0 e2 e3
  subst e0 e1 e2 e3 e4 e5 e6 e7
  exact ⟨⟨s, l, sk, nw, ta, tr⟩, ah, ch, aa, ca, ar, cr, rfl, ⟨wr, ra, rr⟩, ⟨ws, wz, wn, za, na, zr, nr⟩, wf, wsk, wnw, ma, fa, mr, fr⟩

end Go.Proofs.YtnjepdggefchnaaGreatDoor
