/- Contract of slices.Delete of one row. -/
import Derived.Test.YtdgppdjjmpjgkaaUIns
namespace Go.Proofs.Ytdgppdjjmpjgkaa
open Go.RowKit
set_option linter.unusedVariables false
set_option linter.unusedSimpArgs false

theorem u_step_app {P : Program} {ops : Array Oper} {o : Oper} {a : Act} {w : World} {K : Act → World → Prop} {Q : Exit → Act → World → Prop} {E : Prop}
    (hg : o.guard = none) (d x : Operand) (dT sT : TypeId) (hop : o.op = Op.call { callee := Callee.builtin Builtin.append, args := #[d, x], argTypes := #[dT, sT] })
    (v u : Value) (hd : a.eval d = v) (hx : a.eval x = u) {v' : Value} {w' : World} (hr : (Builtin.append_ #[dT, sT] o.type #[v, u]).run P w = .ok v' w') (hK : K (a.put o.dst v') w') :
    if Region.wanted o (yielded ops a.tmps) = true then Oper.wp P o a w K Q else E := by
  have hw : Region.wanted o (yielded ops a.tmps) = true := by simp [Region.wanted, hg]
  rw [if_pos hw]
  unfold Oper.wp
  simp [execOp, hop, resolve, invoke, builtin, hd, hx, hr, Result.andThen]
  exact hK

theorem sl_cutR (b o L cap f t mx : Nat) (h : f ≤ t) (ht : t ≤ mx) (hm : mx ≤ cap) (W : World) : (Instr.slice 31 (.slice (some ⟨b, o, none⟩) L cap) (some (.int .i64 f)) (some (.int .i64 t)) (some (.int .i64 mx))).run Try.prog W = .ok (.slice (some (if mx = f then ⟨b, o, none⟩ else ⟨b, o + f * 2, none⟩)) (t - f) (mx - f)) W := by
  have h1 : (f : Int) ≤ t := by omega
  have h2 : (t : Int) ≤ mx := by omega
  have h3 : (mx : Int) ≤ cap := by omega
  have h4 : ¬ cap < mx := by omega
  go_simp
  by_cases e : mx = f <;> simp [e, Addr.add]

/-- Nothing, as a row. -/
def zRo : List Value := [.string ⟨#[]⟩, .int .i64 0]

/-- One row made nothing. -/
theorem u_clear_one (W : World) (ty : TypeId) (g o cp : Nat) (cur : Array Value) (T : TypeId) (hg : W.heap[g]? = some (.cells cur T (0, 0))) (hfit : o + 2 ≤ cur.size) :
    (Builtin.clear_ #[31] ty #[.slice (some ⟨g, o, none⟩) 1 cp]).run Try.prog W = .ok (.tuple #[]) (W.setRow g (cur.toList.take o ++ zRo ++ cur.toList.drop (o + 2)).toArray) := by
  have hst := run_storeCells_at Try.prog g o T zRo 0 cur W hg (by show o + 0 + 2 ≤ _; omega) (by intro v hv; simp [zRo] at hv; rcases hv with rfl | rfl <;> rfl)
  have e2 : zRo.length = 2 := rfl
  simp only [Nat.add_zero, e2] at hst
  have hz : ∀ W, (zeroValue 74).run Try.prog W = .ok (.agg #[.string ⟨#[]⟩, .int .i64 0]) W := fun W => by simp [go_sem]
  have hzc : (Builtin.zeroCells (Value.cells (.agg #[.string ⟨#[]⟩, .int .i64 0])) 1).toList = zRo := by first | rfl | (simp [Builtin.zeroCells, Value.cells, zRo]; rfl)
  simp [Builtin.clear_, run_underlying Try.underlying31, hz, hzc, hst]

theorem del_cells {A cs zs : List Value} {k n : Nat} (hA : A.take (n * 2) = cs) (hc : cs.length = n * 2) (hz : zs.length = 2) (hk : k < n) (hl : n * 2 ≤ A.length) :
    ((((A.take (k * 2) ++ cs.drop ((k + 1) * 2) ++ A.drop (k * 2 + (n - (k + 1)) * 2)).take ((n - 1) * 2) ++ zs ++ (A.take (k * 2) ++ cs.drop ((k + 1) * 2) ++ A.drop (k * 2 + (n - (k + 1)) * 2)).drop ((n - 1) * 2 + 2))).take ((n - 1) * 2) = cs.take (k * 2) ++ cs.drop ((k + 1) * 2))
    ∧ ((A.take (k * 2) ++ cs.drop ((k + 1) * 2) ++ A.drop (k * 2 + (n - (k + 1)) * 2)).take ((n - 1) * 2) ++ zs ++ (A.take (k * 2) ++ cs.drop ((k + 1) * 2) ++ A.drop (k * 2 + (n - (k + 1)) * 2)).drop ((n - 1) * 2 + 2)).length = A.length
    ∧ (A.take (k * 2) ++ cs.drop ((k + 1) * 2) ++ A.drop (k * 2 + (n - (k + 1)) * 2)).length = A.length := by
  have h1 : (A.take (k * 2)).length = k * 2 := by rw [List.length_take]; omega
  have h2 : (cs.drop ((k + 1) * 2)).length = (n - (k + 1)) * 2 := by rw [List.length_drop, hc]; omega
  have e0 : A.take (k * 2) = cs.take (k * 2) := by
    rw [← hA, List.take_take]
    congr 1
    omega
  have e1 : (A.take (k * 2) ++ cs.drop ((k + 1) * 2) ++ A.drop (k * 2 + (n - (k + 1)) * 2)).take ((n - 1) * 2) = cs.take (k * 2) ++ cs.drop ((k + 1) * 2) := by
    rw [← e0]
    exact List.take_left' (by rw [List.length_append, h1, h2]; omega)
  have h3 : (A.take (k * 2) ++ cs.drop ((k + 1) * 2) ++ A.drop (k * 2 + (n - (k + 1)) * 2)).length = A.length := by
    simp only [List.length_append, h1, h2, List.length_drop]
    omega
  have h4 : (cs.take (k * 2)).length = k * 2 := by rw [← e0]; exact h1
  refine ⟨?_, ?_, h3⟩
  · rw [e1, List.append_assoc]
    exact List.take_left' (by rw [List.length_append, h4, h2]; omega)
  · rw [e1]
    simp only [List.length_append, h4, h2, hz, List.length_drop, h3]
    omega

end Go.Proofs.Ytdgppdjjmpjgkaa
