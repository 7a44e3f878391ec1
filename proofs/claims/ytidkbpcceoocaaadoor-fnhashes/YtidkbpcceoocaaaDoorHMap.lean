/- A map from texts to stamps (two numbers each), as a function: made, looked up, stored into, cleared; each as a law of the operation. -/
import Derived.Test.YtidkbpcceoocaaaDoorRows
import Derived.Test.YtidkbpcceoocaaaDoorKit
import Derived.WalkKit
import Derived.Maps.OwnSet
import Derived.StringKeys
namespace Go.Proofs.YtidkbpcceoocaaaDoor
open Go.RowKit Go.Maps Go.MapKept Go.ChangeMaps Go.WideMaps
set_option linter.unusedVariables false
set_option linter.unusedSimpArgs false

/-- How a stamp reads. -/
def sd (x y : Int) : DataW Unit := .agg [.lit (.int .i64 x), .lit (.int .i64 y)]

def st2 (x y : Int) : Value := .agg #[.int .i64 x, .int .i64 y]

def stampR (v : Value) : Option (DataW Unit × List MemPlace) := match v with
  | .agg cs => match cs.toList with
    | [.int .i64 x, .int .i64 y] => some (sd x y, [])
    | _ => none
  | _ => none

theorem stampR_mk (x y : Int) : stampR (.agg #[.int .i64 x, .int .i64 y]) = some (sd x y, []) := rfl

theorem stampR_inv {v : Value} {x y : Int} {ps : List MemPlace} (h : stampR v = some (sd x y, ps)) : v = .agg #[.int .i64 x, .int .i64 y] := by
  unfold stampR at h
  split at h
  · rename_i cs
    split at h
    · rename_i x' y' he
      simp only [sd, Option.some.injEq, Prod.mk.injEq, DataW.agg.injEq, List.cons.injEq, DataW.lit.injEq, Lit.int.injEq, true_and, and_true] at h
      obtain ⟨⟨rfl, rfl⟩, _⟩ := h
      congr 1
      apply Array.toList_inj.1
      exact he
    · cases h
  · cases h

theorem keyed : Keyed Tryd.prog 9 := string_keyed Tryd.underlying9

/-- What a datum of a map says of one text. -/
def Says (D : DataW Unit) (o : Option (Int × Int)) (s : ByteArray) : Prop := match o with
  | none => Maps.has D (.string s.data.toList) = false
  | some p => Maps.has D (.string s.data.toList) = true ∧ ∀ z, D.atKey (.string s.data.toList) z = sd p.1 p.2

/-- Block b is a map of at most n entries that holds what f says. -/
def OwnsM (w : World) (b n : Nat) (f : ByteArray → Option (Int × Int)) : Prop :=
  ∃ D, w.ownsMap Tryd.prog 9 stampR b n D ∧ ∀ s : ByteArray, Says D (f s) s

theorem OwnsM.made (w : World) : OwnsM (w.alloc (.map #[] 0)) w.heap.size 0 (fun _ => none) :=
  ⟨_, World.ownsMap_made w _ _ _, fun s => rfl⟩

theorem OwnsM.kept {w w' : World} {b n : Nat} {f : ByteArray → Option (Int × Int)} {row : Option Nat} (h : OwnsM w b n f) (hg : w.grownBy w' row) (hne : some b ≠ row) : OwnsM w' b n f := by
  obtain ⟨D, h1, h2⟩ := h
  exact ⟨D, h1.kept hg hne, h2⟩

theorem OwnsM.setCell {w : World} {b n : Nat} {f : ByteArray → Option (Int × Int)} (h : OwnsM w b n f) {a : Addr} (ha : b ≠ a.block) (u : Value) : OwnsM (w.setCell a u) b n f := by
  obtain ⟨D, h1, h2⟩ := h
  exact ⟨D, h1.setCell ha u, h2⟩

theorem OwnsM.alloc {w : World} {b n : Nat} {f : ByteArray → Option (Int × Int)} (h : OwnsM w b n f) (o : Obj) : OwnsM (w.alloc o) b n f := by
  obtain ⟨D, h1, h2⟩ := h
  exact ⟨D, h1.alloc o, h2⟩

theorem OwnsM.map {w : World} {b n : Nat} {f : ByteArray → Option (Int × Int)} (h : OwnsM w b n f) : ∃ es clock, w.heap[b]? = some (.map es clock) := by
  obtain ⟨D, ⟨es, clock, hb, _⟩, _⟩ := h
  exact ⟨es, clock, hb⟩

theorem OwnsM.mono {w : World} {b n m : Nat} {f : ByteArray → Option (Int × Int)} (h : OwnsM w b n f) (hm : n ≤ m) : OwnsM w b m f := by
  obtain ⟨D, h1, h2⟩ := h
  exact ⟨D, h1.mono hm, h2⟩

theorem zeroStamp (w : World) : (zeroValue 56).run Tryd.prog w = .ok (.agg #[.int .i64 0, .int .i64 0]) w := by kernel_rfl

theorem OwnsM.look {w : World} {b n : Nat} {f : ByteArray → Option (Int × Int)} (h : OwnsM w b n f) {s : ByteArray} (hs : s.size ≤ maxLen) :
    (Instr.lookup 52 (.map (some b)) (.string s) true).run Tryd.prog w = .ok (.tuple #[.agg #[.int .i64 ((f s).getD (0, 0)).1, .int .i64 ((f s).getD (0, 0)).2], .bool (f s).isSome]) w := by
  obtain ⟨D, h1, h2⟩ := h
  have h3 := h2 s
  obtain ⟨v, ps, hrun, hv⟩ := h1.look_ok keyed Tryd.underlying52 (zeroStamp w) (stampR_mk 0 0) (keyOf_string_mk Tryd.underlying9 hs)
  rw [hrun]
  cases hf : f s with
  | none =>
    rw [hf] at h3
    have h4 : Maps.has D (.string s.data.toList) = false := h3
    rw [Maps.atKey_of_not_has h4] at hv
    rw [stampR_inv hv, h4]
    rfl
  | some p =>
    rw [hf] at h3
    have h4 : Maps.has D (.string s.data.toList) = true ∧ ∀ z, D.atKey (.string s.data.toList) z = sd p.1 p.2 := h3
    rw [h4.2] at hv
    rw [stampR_inv hv, h4.1]
    rfl

theorem lit_ne {s t : ByteArray} (h : t ≠ s) : (Lit.string t.data.toList) ≠ .string s.data.toList := by
  intro e
  apply h
  apply ByteArray.ext
  apply Array.toList_inj.1
  exact Lit.string.inj e

theorem OwnsM.store {w : World} {b n : Nat} {f : ByteArray → Option (Int × Int)} (h : OwnsM w b n f) (hn : n < maxLen) {s : ByteArray} (hs : s.size ≤ maxLen) (x y : Int) :
    ∃ v w', (Instr.mapUpdate 52 (.map (some b)) (.string s) (.agg #[.int .i64 x, .int .i64 y])).run Tryd.prog w = .ok v w' ∧ OwnsM w' b (n + 1) (fun t => if t = s then some (x, y) else f t) ∧ w.grownBy w' (some b) := by
  obtain ⟨D, h1, h2⟩ := h
  obtain ⟨w', hrun, ho, hg⟩ := h1.update keyed Tryd.underlying52 hn (keyOf_string_mk Tryd.underlying9 hs) (stampR_mk x y)
  refine ⟨(), w', hrun, ⟨_, ho, fun t => ?_⟩, hg⟩
  by_cases ht : t = s
  · subst ht
    simp only [if_pos]
    exact ⟨Maps.has_put_same h1.isMap (by trivial) _, fun z => Maps.atKey_put_same h1.isMap (by trivial) _ z⟩
  · simp only [if_neg ht]
    have h3 := h2 t
    unfold Says at h3 ⊢
    cases hf : f t with
    | none =>
      rw [hf] at h3
      simp only at h3 ⊢
      rw [Maps.has_put_other (lit_ne ht)]
      exact h3
    | some p =>
      rw [hf] at h3
      simp only at h3 ⊢
      rw [Maps.has_put_other (lit_ne ht)]
      exact ⟨h3.1, fun z => by rw [Maps.atKey_put_other (lit_ne ht)]; exact h3.2 z⟩

theorem OwnsM.clear {w : World} {b n : Nat} {f : ByteArray → Option (Int × Int)} (h : OwnsM w b n f) (ty : TypeId) :
    ∃ v w', (Builtin.clear_ #[52] ty #[.map (some b)]).run Tryd.prog w = .ok v w' ∧ v = .tuple #[] ∧ OwnsM w' b 0 (fun _ => none) ∧ w.grownBy w' (some b) := by
  obtain ⟨D, ⟨es, clock, hb, F, hs, hD⟩, h2⟩ := h
  refine ⟨_, setBlock w b (.map #[] clock), ?_, rfl, ⟨.map [], ⟨#[], clock, heap_setBlock_same hb _, ⟨by simp, stamped_empty clock, by simp⟩, Nat.le_refl _, rfl⟩, fun s => rfl⟩, ⟨rfl, rfl, rfl, by simp [setBlock], fun i _ hi => heap_setBlock_other hb _ (fun e => hi (by rw [e]))⟩⟩
  simp [Builtin.clear_, run_underlying Tryd.underlying52, MapKept.run_getObj_map hb, MapKept.run_setObj_map _ hb, Result.andThen]
  rfl

section
variable {P : Program} {α : Type} {X : Sem α} {w : World} {o : Oper} {a : Act} {K : Act → World → Prop} {Q : Exit → Act → World → Prop} {g : α → World → Result Next}

/-- Where the walk stands still at an operation whose run is known. -/
theorem upon_run {v : α} {w' : World} (hrun : X.run P w = .ok v w') (h : o.upon P a K Q (g v w')) : o.upon P a K Q ((X.run P w).andThen g) := by
  rw [hrun]
  exact h

/-- .. or known to be one of some. -/
theorem upon_ex {R : α → World → Prop} (hrun : ∃ v w', X.run P w = .ok v w' ∧ R v w') (h : ∀ v w', R v w' → o.upon P a K Q (g v w')) : o.upon P a K Q ((X.run P w).andThen g) := by
  obtain ⟨v, w', e, r⟩ := hrun
  rw [e]
  exact h v w' r

end

theorem wpL_clear (w : World) {ops : Array Oper} {rest : List Oper} {o : Oper} {a : Act} {Q : Exit → Act → World → Prop} (hg : o.guard = none) (m : Operand) (hop : o.op = Op.call { callee := Callee.builtin Builtin.clear, args := #[m], argTypes := #[52] }) (b n : Nat) (f : ByteArray → Option (Int × Int))
    (hm : a.eval m = .map (some b)) (h : OwnsM w b n f)
    (hK : ∀ w', OwnsM w' b 0 (fun _ => none) → w.grownBy w' (some b) → wpList Tryd.prog ops Q rest (a.put o.dst (.tuple #[])) w') : wpList Tryd.prog ops Q (o :: rest) a w := by
  refine wpList_plain hg fun K' hK' => ?_
  obtain ⟨v, w', hrun, rfl, r1, r2⟩ := h.clear o.type
  unfold Oper.wp
  simp [execOp, hop, resolve, invoke, builtin, hm, hrun, Result.andThen]
  exact hK' _ _ (hK w' r1 r2)

theorem run_makeMapN {P : Program} (t k e : TypeId) (ht : P.underlying t = some (.map k e)) (q : IntKind) (n : Int) (w : World) : (Instr.makeMap t (some (.int q n))).run P w = .ok (.map (some w.heap.size)) (w.alloc (.map #[] 0)) := by
  simp [Instr.makeMap, run_underlying ht, asInt, Result.andThen]
  rfl

end Go.Proofs.YtidkbpcceoocaaaDoor
