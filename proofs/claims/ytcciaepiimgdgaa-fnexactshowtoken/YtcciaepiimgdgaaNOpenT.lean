/- A token among the arguments, opened. -/
import Derived.Test.YtcciaepiimgdgaaNTok
namespace Go.Proofs.Ytcciaepiimgdgaa
open Go.ChangeShapes Go.WideShapes Go.ChangeAt Go.RowKit
set_option linter.unusedVariables false

set_option maxRecDepth 100000 in
theorem token_of {H : Type} {enc : TypeId × Value → H} {W : World} {base : Nat} {v : Value} {d : DataW H} {p : List MemPlace}
    (hv : Value.okWide Try.prog W .any base 43 v) (h : DataW.Trod enc Try.prog W 0 (fun _ => true) true 43 v d p) (hlt : ∀ y ∈ p, y.block < W.heap.size) :
    ∃ (t : Tk) (a : Option Addr) (cap : Nat), v = tkV t a cap ∧ AtRow W a t.attrs ∧ TkSz maxLen t ∧ (Lit.int .i64 t.kind).wf = true := by
  obtain ⟨v0, v1, v2, v3, y0, y1, y2, y3, n, rfl, _, hp, h0, h1, h2, h3⟩ := Joins.open_agg4 Try.underlying43 (by kernel_rfl) (by kernel_rfl) hv h
  obtain ⟨k, hk, _, wk⟩ := DataW.trod_int Try.underlying2 h0
  obtain ⟨s, hs, _, ws⟩ := DataW.trod_string Try.underlying9 h1
  obtain ⟨u, hu, _, wu⟩ := DataW.trod_string Try.underlying9 h3
  obtain ⟨a, cap, l, rfl, wn, wr, wz⟩ := attrs_of h2 (fun y hy => hlt y (by rw [hp]; simp [hy]))
  simp only [List.cons.injEq, and_true] at hk hs hu
  subst hk hs hu
  exact ⟨⟨k, s, l, u⟩, a, cap, rfl, wr, ⟨ws, wn, wz, wu⟩, wk⟩

end Go.Proofs.Ytcciaepiimgdgaa
