/- A row of tokens: read; owned; two rows compared. -/
import Derived.Test.YtlghhemmmjahnaaNMarkA
namespace Go.Proofs.Ytlghhemmmjahnaa
open Go.RowKit
set_option linter.unusedVariables false
set_option linter.unusedSimpArgs false

/-- The tokens lie in a row from a on, each with its attrs. -/
def TkRow (w : World) (a : Option Addr) (ts : List Tk) : Prop :=
  ∀ j (h : j < ts.length), ∃ b o aa cap, a = some ⟨b, o, none⟩ ∧ b < w.heap.size ∧ w.cell? ⟨b, o + j * 4, none⟩ = some (.int .i64 ts[j].kind) ∧ w.cell? ⟨b, o + j * 4 + 1, none⟩ = some (.string ts[j].name)
    ∧ w.cell? ⟨b, o + j * 4 + 2, none⟩ = some (.slice aa ts[j].attrs.length cap) ∧ w.cell? ⟨b, o + j * 4 + 3, none⟩ = some (.string ts[j].text) ∧ AtRow w aa ts[j].attrs

theorem TkRow.below {w w' : World} {a : Option Addr} {ts : List Tk} (h : TkRow w a ts) (hb : Below w.heap.size w w') : TkRow w' a ts := by
  intro j hj
  obtain ⟨b, o, aa, cap, ha, hlt, c0, c1, c2, c3, hr⟩ := h j hj
  exact ⟨b, o, aa, cap, ha, Nat.lt_of_lt_of_le hlt hb.size, (hb.cell (p := ⟨b, o + j * 4, none⟩) hlt).trans c0, (hb.cell (p := ⟨b, o + j * 4 + 1, none⟩) hlt).trans c1, (hb.cell (p := ⟨b, o + j * 4 + 2, none⟩) hlt).trans c2, (hb.cell (p := ⟨b, o + j * 4 + 3, none⟩) hlt).trans c3, hr.below hb⟩

def TksSz (n : Nat) (ts : List Tk) : Prop := ∀ t ∈ ts, TkSz n t

theorem quad_bw {W : World} {b o : Nat} {x y z u : Value} (hb : b < W.heap.size) (h0 : W.cell? ⟨b, o, none⟩ = some x) (h1 : W.cell? ⟨b, o + 1, none⟩ = some y) (h2 : W.cell? ⟨b, o + 2, none⟩ = some z) (h3 : W.cell? ⟨b, o + 3, none⟩ = some u) :
    (∀ p : BW W, p.w.cell? ⟨b, o, none⟩ = some x) ∧ (∀ p : BW W, p.w.cell? ⟨b, o + 1, none⟩ = some y) ∧ (∀ p : BW W, p.w.cell? ⟨b, o + 2, none⟩ = some z) ∧ (∀ p : BW W, p.w.cell? ⟨b, o + 3, none⟩ = some u) :=
  ⟨fun p => (p.h.cell (p := ⟨b, o, none⟩) hb).trans h0, fun p => (p.h.cell (p := ⟨b, o + 1, none⟩) hb).trans h1, fun p => (p.h.cell (p := ⟨b, o + 2, none⟩) hb).trans h2, fun p => (p.h.cell (p := ⟨b, o + 3, none⟩) hb).trans h3⟩

/-- All blocks that are not of these stand as they stood. -/
structure KeepB (p : Nat → Prop) (w w' : World) : Prop where
  os : w'.os = w.os
  tape : w'.tape = w.tape
  output : w'.output = w.output
  size : w.heap.size ≤ w'.heap.size
  block : ∀ k, k < w.heap.size → ¬ p k → w'.heap[k]? = w.heap[k]?

theorem KeepB.refl (p : Nat → Prop) (w : World) : KeepB p w w := ⟨rfl, rfl, rfl, Nat.le_refl _, fun _ _ _ => rfl⟩

theorem KeepB.trans {p : Nat → Prop} {a b c : World} (h : KeepB p a b) (k : KeepB p b c) : KeepB p a c :=
  ⟨k.os.trans h.os, k.tape.trans h.tape, k.output.trans h.output, Nat.le_trans h.size k.size, fun i hi hr => (k.block i (Nat.lt_of_lt_of_le hi h.size) hr).trans (h.block i hi hr)⟩

theorem KeepB.of_below (p : Nat → Prop) {w w' : World} (h : Below w.heap.size w w') : KeepB p w w' := ⟨h.os, h.tape, h.output, h.size, fun i hi _ => h.block i hi⟩

theorem KeepB.of_grown {p : Nat → Prop} {w w' : World} {g : Nat} (h : w.grownBy w' (some g)) (hp : p g) : KeepB p w w' :=
  ⟨h.os, h.tape, h.output, h.size, fun i hi hr => h.block i hi (fun e => hr (by rw [Option.some.inj e]; exact hp))⟩

theorem KeepB.of_set {p : Nat → Prop} (w : World) {g : Nat} (i : Nat) (v : Value) (hp : p g) : KeepB p w (w.setCell ⟨g, i, none⟩ v) := KeepB.of_grown (Lib.grownBy_setCell w g i v) hp

theorem KeepB.mono {p q : Nat → Prop} {w w' : World} (h : KeepB p w w') (hq : ∀ k, p k → q k) : KeepB q w w' := ⟨h.os, h.tape, h.output, h.size, fun i hi hr => h.block i hi (fun e => hr (hq i e))⟩

theorem KeepB.below {p : Nat → Prop} {w w' : World} {B : Nat} (h : KeepB p w w') (hB : B ≤ w.heap.size) (hp : ∀ k, p k → B ≤ k) : Below B w w' :=
  ⟨h.os, h.tape, h.output, h.size, fun i hi => h.block i (by omega) (fun e => by have := hp i e; omega)⟩

end Go.Proofs.Ytlghhemmmjahnaa
