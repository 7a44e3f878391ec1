/- Contract of slices.Insert of one row. -/
import Derived.Test.YtdgppdjjmpjgkaaUImC
import Derived.Lib.AppendZerosOnto
import Derived.Lib.AppendZeros
import Derived.Lib.Overlaps
import Derived.Lib.SliceRun
namespace Go.Proofs.Ytdgppdjjmpjgkaa
open Go.RowKit
set_option linter.unusedVariables false
set_option linter.unusedSimpArgs false

/-- copy of rows into a row. -/
theorem u_copy_ro (W : World) (ty : TypeId) (g o dLen dCap : Nat) (a : Addr) (sLen sCap m : Nat) (cur : Array Value) (T : TypeId) (cs : List Value) (hg : W.heap[g]? = some (.cells cur T (0, 0))) (hm : Nat.min sLen dLen = m) (hl : cs.length = m * 2)
    (hsrc : ∀ j v, cs[j]? = some v → W.cell? (a.add j) = some v) (hfit : o + cs.length ≤ cur.size) (h1 : ∀ v ∈ cs, v.oneCell' = true) :
    (Builtin.copy_ #[31, 31] ty #[.slice (some ⟨g, o, none⟩) dLen dCap, .slice (some a) sLen sCap]).run Try.prog W = .ok (goInt m) (W.setRow g (cur.toList.take o ++ cs ++ cur.toList.drop (o + cs.length)).toArray) := by
  obtain ⟨i0, hi, hz0, hz1, hz2⟩ := info_parts infoRoW
  have hf : (Builtin.firstCells i0.size m (.slice (some a) sLen sCap)).run Try.prog W = .ok cs.toArray W := run_firstCells_some W _ _ a _ _ cs (by rw [hz1]; exact hl) hsrc
  have hst := run_storeCells_at Try.prog g o T cs 0 cur W hg (by simpa using hfit) h1
  simp only [Nat.add_zero] at hst
  simp [Builtin.copy_, run_underlying Try.underlying31, Builtin.lenOf, sizeOf, typeInfo, hi, hm, hf, hst]

/-- .. as a step of the walk. -/
theorem u_wpL_copy {P : Program} (w : World) {ops : Array Oper} {rest : List Oper} {o : Oper} {a : Act} {Q : Exit → Act → World → Prop} (hgd : o.guard = none) (d s : Operand) (t t' : TypeId)
    (ho : o.op = .call { callee := .builtin .copy, args := #[d, s], argTypes := #[t, t'] }) (v u : Value) (hd : a.eval d = v) (hs : a.eval s = u) {v' : Value} {w' : World}
    (hr : (Builtin.copy_ #[t, t'] o.type #[v, u]).run P w = .ok v' w') (h : wpList P ops Q rest (a.put o.dst v') w') : wpList P ops Q (o :: rest) a w := by
  refine wpList_plain hgd fun K hK => ?_
  unfold Oper.wp execOp
  simp only [ho, resolve, invoke, builtin, Sem.run_bind, Sem.run_pure, Result.andThen_ok, List.map_toArray, List.map_cons, List.map_nil, hd, hs, hr]
  exact hK _ _ h

theorem u_step_copy {P : Program} {ops : Array Oper} {o : Oper} {a : Act} {w : World} {K : Act → World → Prop} {Q : Exit → Act → World → Prop} {E : Prop}
    (hg : o.guard = none) (d x : Operand) (dT sT : TypeId) (hop : o.op = Op.call { callee := Callee.builtin Builtin.copy, args := #[d, x], argTypes := #[dT, sT] })
    (v u : Value) (hd : a.eval d = v) (hx : a.eval x = u) {v' : Value} {w' : World} (hr : (Builtin.copy_ #[dT, sT] o.type #[v, u]).run P w = .ok v' w') (hK : K (a.put o.dst v') w') :
    if Region.wanted o (yielded ops a.tmps) = true then Oper.wp P o a w K Q else E := by
  have hw : Region.wanted o (yielded ops a.tmps) = true := by simp [Region.wanted, hg]
  rw [if_pos hw]
  unfold Oper.wp
  simp [execOp, hop, resolve, invoke, builtin, hd, hx, hr, Result.andThen]
  exact hK

theorem insR_cells {A cs xs : List Value} {k n : Nat} (hA : A.take (n * 2) = cs) (hc : cs.length = n * 2) (hx : xs.length = 2) (hk : k ≤ n) (hl : (n + 1) * 2 ≤ A.length) :
    (((A.take ((k + 1) * 2) ++ cs.drop (k * 2) ++ A.drop ((k + 1) * 2 + (n - k) * 2)).take (k * 2) ++ xs ++ (A.take ((k + 1) * 2) ++ cs.drop (k * 2) ++ A.drop ((k + 1) * 2 + (n - k) * 2)).drop (k * 2 + 2)).take ((n + 1) * 2) = cs.take (k * 2) ++ xs ++ cs.drop (k * 2))
    ∧ ((A.take ((k + 1) * 2) ++ cs.drop (k * 2) ++ A.drop ((k + 1) * 2 + (n - k) * 2)).take (k * 2) ++ xs ++ (A.take ((k + 1) * 2) ++ cs.drop (k * 2) ++ A.drop ((k + 1) * 2 + (n - k) * 2)).drop (k * 2 + 2)).length = A.length := by
  have h1 : (A.take ((k + 1) * 2)).length = (k + 1) * 2 := by rw [List.length_take]; omega
  have h2 : (cs.drop (k * 2)).length = (n - k) * 2 := by rw [List.length_drop, hc]; omega
  have e1 : (A.take ((k + 1) * 2) ++ cs.drop (k * 2) ++ A.drop ((k + 1) * 2 + (n - k) * 2)).take (k * 2) = cs.take (k * 2) := by
    rw [List.append_assoc, List.take_append_of_le_length (by rw [h1]; omega), List.take_take, ← hA, List.take_take]
    congr 1
    omega
  have e2 : (A.take ((k + 1) * 2) ++ cs.drop (k * 2) ++ A.drop ((k + 1) * 2 + (n - k) * 2)).drop (k * 2 + 2) = cs.drop (k * 2) ++ A.drop ((k + 1) * 2 + (n - k) * 2) := by
    rw [List.append_assoc, List.drop_append_of_le_length (by rw [h1]; omega)]
    rw [List.drop_of_length_le (by rw [h1]; omega), List.nil_append]
  have h3 : (cs.take (k * 2)).length = k * 2 := by rw [List.length_take, hc]; omega
  rw [e1, e2]
  refine ⟨?_, ?_⟩
  · rw [← List.append_assoc]
    refine List.take_left' ?_
    rw [List.length_append, List.length_append, h3, hx, h2]
    omega
  · simp only [List.length_append, h3, hx, h2, List.length_drop]
    omega

theorem insG_cells {Z cs xs : List Value} {k n : Nat} (hc : cs.length = n * 2) (hx : xs.length = 2) (hk : k < n) (hl : (n + 1 - k) * 2 ≤ Z.length) :
    (((cs.take (k * 2) ++ Z).take (k * 2) ++ xs ++ (cs.take (k * 2) ++ Z).drop (k * 2 + 2)).take ((k + 1) * 2) ++ cs.drop (k * 2) ++ ((cs.take (k * 2) ++ Z).take (k * 2) ++ xs ++ (cs.take (k * 2) ++ Z).drop (k * 2 + 2)).drop ((k + 1) * 2 + (n - k) * 2)).take ((n + 1) * 2) = cs.take (k * 2) ++ xs ++ cs.drop (k * 2)
    ∧ (((cs.take (k * 2) ++ Z).take (k * 2) ++ xs ++ (cs.take (k * 2) ++ Z).drop (k * 2 + 2)).take ((k + 1) * 2) ++ cs.drop (k * 2) ++ ((cs.take (k * 2) ++ Z).take (k * 2) ++ xs ++ (cs.take (k * 2) ++ Z).drop (k * 2 + 2)).drop ((k + 1) * 2 + (n - k) * 2)).length = k * 2 + Z.length := by
  have h3 : (cs.take (k * 2)).length = k * 2 := by rw [List.length_take, hc]; omega
  have h2 : (cs.drop (k * 2)).length = (n - k) * 2 := by rw [List.length_drop, hc]; omega
  have e1 : (cs.take (k * 2) ++ Z).take (k * 2) = cs.take (k * 2) := List.take_left' h3
  rw [e1]
  have e2 : (cs.take (k * 2) ++ xs ++ (cs.take (k * 2) ++ Z).drop (k * 2 + 2)).take ((k + 1) * 2) = cs.take (k * 2) ++ xs := List.take_left' (by rw [List.length_append, h3, hx]; omega)
  rw [e2]
  refine ⟨List.take_left' (by simp only [List.length_append, h3, hx, h2]; omega), ?_⟩
  simp only [List.length_append, h3, hx, h2, List.length_drop]
  omega

theorem sl_uptoC (b o L cap k : Nat) (h : k ≤ cap) (W : World) : (Instr.slice 31 (.slice (some ⟨b, o, none⟩) L cap) none (some (.int .i64 k)) none).run Try.prog W = .ok (.slice (some ⟨b, o, none⟩) k cap) W := by
  have h2 : (k : Int) ≤ cap := by omega
  have h3 : ¬ cap < k := by omega
  go_simp

/-- The fact that tells where a row lies, from its own text. -/
theorem own_at {w : World} {B n : Nat} {a : Option Addr} {c : Nat} {xs : List Value} (h : w.ownsRow B 74 2 (.slice a n c) n xs) (h0 : 0 < n) : ∃ g cur, a = some ⟨g, 0, none⟩ ∧ B ≤ g ∧ w.heap[g]? = some (.cells cur 74 (0, 0)) ∧ n ≤ c ∧ c ≤ maxLen ∧ cur.size = c * 2 ∧ cur.toList.take (n * 2) = xs ∧ xs.length = n * 2 := by
  rcases h.2 with ⟨e, h1⟩ | ⟨g, cap, cur, e, h1, h2, h3, h4, h5, h6⟩
  · omega
  · cases e
    exact ⟨g, cur, rfl, h1, h2, h3, h4, h5, h6, h.1⟩

theorem mk_own {w : World} {B n g c : Nat} {cur : Array Value} {xs : List Value} (h1 : B ≤ g) (h2 : w.heap[g]? = some (.cells cur 74 (0, 0))) (h3 : n ≤ c) (h4 : c ≤ maxLen) (h5 : cur.size = c * 2) (h6 : cur.toList.take (n * 2) = xs) (h7 : xs.length = n * 2) :
    w.ownsRow B 74 2 (.slice (some ⟨g, 0, none⟩) n c) n xs := ⟨h7, .inr ⟨g, c, cur, rfl, h1, h2, h3, h4, h5, h6⟩⟩

theorem row_at {w : World} {g : Nat} {cur : Array Value} {T : TypeId} {n : Nat} {xs : List Value} (h : w.heap[g]? = some (.cells cur T (0, 0))) (ht : cur.toList.take (n * 2) = xs) (k : Nat) : ∀ j v, (xs.drop (k * 2))[j]? = some v → w.cell? ((⟨g, k * 2, none⟩ : Addr).add j) = some v := by
  intro j v hj
  rw [List.getElem?_drop, ← ht] at hj
  rw [u_add_plainW, Lib.cell_of_heap h]
  rw [List.getElem?_take] at hj
  split at hj
  · rw [← Array.getElem?_toList]; exact hj
  · cases hj

end Go.Proofs.Ytdgppdjjmpjgkaa
