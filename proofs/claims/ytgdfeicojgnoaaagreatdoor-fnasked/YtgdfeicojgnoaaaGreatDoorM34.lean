/- errors.As at a concrete target, a variable of the program's own struct that wraps why in a code: nil is none, the outermost code is set. errors.As at a concrete target: the outermost code is set. errors.Is of an error that wraps one of errors.New's make; the code that such a one is told by. -/
import Derived.Test.YtgdfeicojgnoaaaGreatDoorM33
import Derived.WalkKit
import Derived.Below
namespace Go.Proofs.YtgdfeicojgnoaaaGreatDoor
open Go.RowKit Go.Extern.Stop Go.Stop Go.Extern
set_option linter.unusedVariables false
set_option linter.unusedSimpArgs false

theorem cAsNil (t : Value) (w : World) :
    Calls Tryz.prog 70 #[.nilIface, t] w fun e w' => e = .returned (.bool false) ∧ w' = w := by
  go_enter Tryz.func70, Tryz.ntmps70
  go_wp2
  go_ret
  exact ⟨rfl, rfl⟩

theorem y_valueOfP (t : Addr) (w : World) : (ReflectliteValue.unpack (.iface 106 (.pointer (some t)))).run Tryz.prog w
    = .ok (.agg #[.pointer (some ⟨5, 106, none⟩), .pointer (some ⟨w.heap.size, 0, none⟩), .int .u64 150]) (w.alloc (.cells #[.pointer (some t)] 106)) := by kernel_rfl
theorem y_typeP (a : Addr) (w : World) : (ReflectliteValue.methodAny (ReflectliteValue.valueError "reflectlite.Value.Type" 0) (fun t _ _ _ => ReflectliteType.toType t) #[.agg #[.pointer (some ⟨5, 106, none⟩), .pointer (some a), .int .u64 150]]).run Tryz.prog w
    = .ok (.iface 189 (.agg #[.pointer (some ⟨5, 106, none⟩)])) w := by kernel_rfl
theorem y_methodKind (h : Value) (w : World) : (Go.method 361 189 (.agg #[h]) "Kind").run Tryz.prog w = .ok (181, h) w := by kernel_rfl
theorem y_kindP (w : World) : ((ReflectliteType.abiMethod fun t => (fun a : Nat => Value.int IntKind.u8 (a : Int)) <$> Rtype.kind t) #[.pointer (some ⟨5, 106, none⟩)]).run Tryz.prog w = .ok (.int .u8 22) w := by kernel_rfl
theorem y_kindT (w : World) : ((ReflectliteType.abiMethod fun t => (fun a : Nat => Value.int IntKind.u8 (a : Int)) <$> Rtype.kind t) #[.pointer (some ⟨5, 102, none⟩)]).run Tryz.prog w = .ok (.int .u8 25) w := by kernel_rfl
theorem y_rlm (z : Sem Value) (f : TypeId → Addr → Nat → Nat → Sem Value) (v : Value) :
    ReflectliteValue.method z f #[v] = (do match ← ReflectliteValue.parts v with | none => z | some (t, a, fl) => f t a fl (fl % 32)) := rfl
theorem y_partsP (a : Addr) (w : World) : (ReflectliteValue.parts (.agg #[.pointer (some ⟨5, 106, none⟩), .pointer (some a), .int .u64 150])).run Tryz.prog w = .ok (some (106, a, 150)) w := by kernel_rfl
theorem y_isNilP (a p : Addr) (W : World) (ha : W.cell? a = some (.pointer (some p))) :
    (ReflectliteValue.method (ReflectliteValue.valueError "reflectlite.Value.IsNil" 0) ReflectliteValue.isNil #[.agg #[.pointer (some ⟨5, 106, none⟩), .pointer (some a), .int .u64 150]]).run Tryz.prog W = .ok (.bool false) W := by
  rw [y_rlm]
  simp only [Sem.run_bind, y_partsP, Result.andThen]
  simp [ReflectliteValue.isNil, loadVar, isAgg, underlying, Tryz.underlying106, ha, Result.andThen]
theorem y_methodElem (h : Value) (w : World) : (Go.method 361 189 (.agg #[h]) "Elem").run Tryz.prog w = .ok (199, .agg #[h]) w := by kernel_rfl
theorem y_methodImplements (h : Value) (w : World) : (Go.method 361 189 (.agg #[h]) "Implements").run Tryz.prog w = .ok (200, .agg #[h]) w := by kernel_rfl
theorem y_methodAssignableTo (h : Value) (w : World) : (Go.method 361 189 (.agg #[h]) "AssignableTo").run Tryz.prog w = .ok (197, .agg #[h]) w := by kernel_rfl
theorem y_elemP (w : World) : (ReflectliteType.method ReflectliteType.elem #[.agg #[.pointer (some ⟨5, 106, none⟩)]]).run Tryz.prog w = .ok (.iface 189 (.agg #[.pointer (some ⟨5, 102, none⟩)])) w := by kernel_rfl
theorem y_implements (w : World) : (ReflectliteType.relation "Implements" ReflectliteType.implements_ #[.agg #[.pointer (some ⟨5, 102, none⟩)], .iface 189 (.agg #[.pointer (some ⟨5, 58, none⟩)])]).run Tryz.prog w = .ok (.bool true) w := by kernel_rfl
theorem y_typeOfT (v : Value) (w : World) : (ReflectliteType.typeOf #[.iface 102 v]).run Tryz.prog w = .ok (.iface 189 (.agg #[.pointer (some ⟨5, 102, none⟩)])) w := by kernel_rfl
theorem y_assignable (w : World) : (ReflectliteType.relation "AssignableTo" ReflectliteType.assignableTo #[.agg #[.pointer (some ⟨5, 102, none⟩)], .iface 189 (.agg #[.pointer (some ⟨5, 102, none⟩)])]).run Tryz.prog w = .ok (.bool true) w := by kernel_rfl
theorem y_valueOfT (c : Int) (x : TypeId) (v : Value) (w : World) : (ReflectliteValue.unpack (.iface 102 (.agg #[.int .i64 c, .iface x v]))).run Tryz.prog w
    = .ok (.agg #[.pointer (some ⟨5, 102, none⟩), .pointer (some ⟨w.heap.size, 0, none⟩), .int .u64 153]) (w.alloc (.cells #[.int .i64 c, .iface x v] 102)) := by kernel_rfl
theorem y_elemOfP (w : World) : (Rtype.elem? 106).run Tryz.prog w = .ok (some 102) w := by kernel_rfl
theorem y_mkT (p : Addr) (w : World) : (ReflectliteValue.mk 102 p ReflectliteValue.flagAddr).run Tryz.prog w = .ok (.agg #[.pointer (some ⟨5, 102, none⟩), .pointer (some p), .int .u64 409]) w := by kernel_rfl
theorem y_elemV (a p : Addr) (W : World) (ha : W.cell? a = some (.pointer (some p))) :
    (ReflectliteValue.method (ReflectliteValue.valueError "reflectlite.Value.Elem" 0) ReflectliteValue.elem #[.agg #[.pointer (some ⟨5, 106, none⟩), .pointer (some a), .int .u64 150]]).run Tryz.prog W
      = .ok (.agg #[.pointer (some ⟨5, 102, none⟩), .pointer (some p), .int .u64 409]) W := by
  rw [y_rlm]
  simp only [Sem.run_bind, y_partsP, Result.andThen]
  simp [ReflectliteValue.elem, loadVar, isAgg, underlying, Tryz.underlying106, ha, Result.andThen, y_elemOfP, y_mkT]
theorem y_rls (v x : Value) : ReflectliteValue.set #[v, x] = (do
    let (some (dst, a, fl), some (src, b, _)) := (← ReflectliteValue.parts v, ← ReflectliteValue.parts x)
      | unsupported (.noEntry "extern/(internal/reflectlite.Value).Set.zeroValue")
    if fl / ReflectliteValue.flagAddr % 2 == 0 then unsupported (.noEntry "extern/(internal/reflectlite.Value).Set.unaddressable")
    let val ← loadVar src b
    if ← Rtype.directlyAssignable dst src then storeVar dst a val
    else if ← Rtype.implements dst src then
      if (← Rtype.kind src) == 20 then
        match val with
        | .nilIface => unsupported (.noEntry "extern/reflectlite: a nil value of one interface type handed on as a value of another")
        | _ => storeVar dst a val
      else storeVar dst a (.iface src val)
    else panicString ("reflectlite.Set: value of type " ++ (← Rtype.spelt src) ++ " is not assignable to type " ++ (← Rtype.spelt dst))
    pure (.tuple #[])) := rfl
theorem y_partsTa (a : Addr) (w : World) : (ReflectliteValue.parts (.agg #[.pointer (some ⟨5, 102, none⟩), .pointer (some a), .int .u64 409])).run Tryz.prog w = .ok (some (102, a, 409)) w := by kernel_rfl
theorem y_partsT (a : Addr) (w : World) : (ReflectliteValue.parts (.agg #[.pointer (some ⟨5, 102, none⟩), .pointer (some a), .int .u64 153])).run Tryz.prog w = .ok (some (102, a, 153)) w := by kernel_rfl
theorem y_direct (w : World) : (Rtype.directlyAssignable 102 102).run Tryz.prog w = .ok true w := by kernel_rfl
theorem y_sizeT (w : World) : (sizeOf 102).run Tryz.prog w = .ok 2 w := by kernel_rfl
theorem y_loadT (b : Nat) (c : Int) (x : TypeId) (v : Value) (W : World) (h0 : W.cell? ⟨b, 0, none⟩ = some (.int .i64 c)) (h1 : W.cell? ⟨b, 1, none⟩ = some (.iface x v)) : (loadVar 102 ⟨b, 0, none⟩).run Tryz.prog W = .ok (.agg #[.int .i64 c, .iface x v]) W := by
  simp [loadVar, isAgg, underlying, Tryz.underlying102, Tryz.isAgg102, Tryz.sizeOf102, y_sizeT, Result.andThen, go_sem, h0, h1, Addr.add]
theorem y_storeT (d : Nat) (c : Int) (x : TypeId) (v o0 o1 : Value) (W : World) (h0 : W.cell? ⟨d, 0, none⟩ = some o0) (h1 : W.cell? ⟨d, 1, none⟩ = some o1) (f0 : W.frozen? ⟨d, 0, none⟩ = false) (f1 : W.frozen? ⟨d, 1, none⟩ = false) : (storeVar 102 ⟨d, 0, none⟩ (.agg #[.int .i64 c, .iface x v])).run Tryz.prog W = .ok () ((W.setCell ⟨d, 0, none⟩ (.int .i64 c)).setCell ⟨d, 1, none⟩ (.iface x v)) := by
  simp [storeVar, isAgg, underlying, Tryz.underlying102, Tryz.isAgg102, Value.cells, storeCells, Addr.add, go_sem, h0, h1, f0, f1]
/-- (Value).Set: the variable gets what the Value's own variable holds. -/
theorem y_set (d b : Nat) (c : Int) (x : TypeId) (v o0 o1 : Value) (W : World) (b0 : W.cell? ⟨b, 0, none⟩ = some (.int .i64 c)) (b1 : W.cell? ⟨b, 1, none⟩ = some (.iface x v)) (h0 : W.cell? ⟨d, 0, none⟩ = some o0) (h1 : W.cell? ⟨d, 1, none⟩ = some o1) (f0 : W.frozen? ⟨d, 0, none⟩ = false) (f1 : W.frozen? ⟨d, 1, none⟩ = false) :
    (ReflectliteValue.set #[.agg #[.pointer (some ⟨5, 102, none⟩), .pointer (some ⟨d, 0, none⟩), .int .u64 409], .agg #[.pointer (some ⟨5, 102, none⟩), .pointer (some ⟨b, 0, none⟩), .int .u64 153]]).run Tryz.prog W
      = .ok (.tuple #[]) ((W.setCell ⟨d, 0, none⟩ (.int .i64 c)).setCell ⟨d, 1, none⟩ (.iface x v)) := by
  rw [y_rls]
  simp only [Sem.run_bind, y_partsTa, y_partsT, Result.andThen]
  simp [ReflectliteValue.flagAddr, y_loadT b c x v W b0 b1, Result.andThen, y_direct, y_storeT d c x v o0 o1 W h0 h1 f0 f1]

end Go.Proofs.YtgdfeicojgnoaaaGreatDoor

namespace Go.Proofs.YtgdfeicojgnoaaaGreatDoor
open Go.RowKit Go.Extern.Stop Go.Stop Go.Extern
set_option linter.unusedVariables false
set_option linter.unusedSimpArgs false

theorem lt_of_cell {w : World} {b o : Nat} {v : Value} (h : w.cell? ⟨b, o, none⟩ = some v) : b < w.heap.size := by
  rcases Nat.lt_or_ge b w.heap.size with h' | h'
  · exact h'
  · simp [World.cell?, Array.getElem?_eq_none h'] at h

set_option maxRecDepth 8000 in
set_option maxHeartbeats 4000000 in
theorem cAsHit (c : Int) (x : TypeId) (v : Value) (d : Nat) (o0 o1 : Value) (w : World) (hg : w.cell? ⟨3, 0, none⟩ = some (.iface 189 (.agg #[.pointer (some ⟨5, 58, none⟩)]))) (h0 : w.cell? ⟨d, 0, none⟩ = some o0) (h1 : w.cell? ⟨d, 1, none⟩ = some o1) (k0 : w.frozen? ⟨d, 0, none⟩ = false) (k1 : w.frozen? ⟨d, 1, none⟩ = false) :
    Calls Tryz.prog 70 #[.iface 102 (.agg #[.int .i64 c, .iface x v]), .iface 106 (.pointer (some ⟨d, 0, none⟩))] w fun ev w' => ev = .returned (.bool true) ∧ ∃ W, Below w.heap.size w W ∧ w' = (W.setCell ⟨d, 0, none⟩ (.int .i64 c)).setCell ⟨d, 1, none⟩ (.iface x v) := by
  have e1 := @run_callFunc_extern Tryz.prog 108 _ (fun args => ReflectliteValue.unpack (args.getD 0 (.tuple #[]))) Tryz.func108 (by kernel_rfl) (by kernel_rfl) (by kernel_rfl) (by kernel_rfl)
  have e2 := @run_callFunc_extern Tryz.prog 109 _ (ReflectliteValue.methodAny (ReflectliteValue.valueError "reflectlite.Value.Type" 0) (fun t _ _ _ => ReflectliteType.toType t)) Tryz.func109 (by kernel_rfl) (by kernel_rfl) (by kernel_rfl) (by kernel_rfl)
  have e3 := @run_callFunc_extern Tryz.prog 110 _ (ReflectliteValue.method (ReflectliteValue.valueError "reflectlite.Value.IsNil" 0) ReflectliteValue.isNil) Tryz.func110 (by kernel_rfl) (by kernel_rfl) (by kernel_rfl) (by kernel_rfl)
  have e4 := @run_callFunc_extern Tryz.prog 181 _ (ReflectliteType.abiMethod fun t => do pure (.int .u8 (← Rtype.kind t))) Tryz.func181 (by kernel_rfl) (by kernel_rfl) (by kernel_rfl) (by kernel_rfl)
  have e5 := @run_callFunc_extern Tryz.prog 199 _ (ReflectliteType.method ReflectliteType.elem) Tryz.func199 (by kernel_rfl) (by kernel_rfl) (by kernel_rfl) (by kernel_rfl)
  have e6 := @run_callFunc_extern Tryz.prog 200 _ (ReflectliteType.relation "Implements" ReflectliteType.implements_) Tryz.func200 (by kernel_rfl) (by kernel_rfl) (by kernel_rfl) (by kernel_rfl)
  have e7 := @run_callFunc_extern Tryz.prog 103 _ ReflectliteType.typeOf Tryz.func103 (by kernel_rfl) (by kernel_rfl) (by kernel_rfl) (by kernel_rfl)
  have e8 := @run_callFunc_extern Tryz.prog 197 _ (ReflectliteType.relation "AssignableTo" ReflectliteType.assignableTo) Tryz.func197 (by kernel_rfl) (by kernel_rfl) (by kernel_rfl) (by kernel_rfl)
  have e9 := @run_callFunc_extern Tryz.prog 134 _ (ReflectliteValue.method (ReflectliteValue.valueError "reflectlite.Value.Elem" 0) ReflectliteValue.elem) Tryz.func134 (by kernel_rfl) (by kernel_rfl) (by kernel_rfl) (by kernel_rfl)
  have e10 := @run_callFunc_extern Tryz.prog 135 _ ReflectliteValue.set Tryz.func135 (by kernel_rfl) (by kernel_rfl) (by kernel_rfl) (by kernel_rfl)
  have tO := y_typeOfT
  have mA := y_methodAssignableTo
  have aT := y_assignable
  have vT := y_valueOfT
  have vP := y_valueOfP
  have tP := y_typeP
  have mK := y_methodKind
  have mE := y_methodElem
  have mI := y_methodImplements
  have kP := y_kindP
  have kT := y_kindT
  have eP := y_elemP
  have iT := y_implements
  obtain ⟨V, hV⟩ : ∃ V : Obj, V = .cells #[.pointer (some ⟨5, 106, none⟩), .pointer (some ⟨w.heap.size, 0, none⟩), .int .u64 150] 154 := ⟨_, rfl⟩
  have nP := y_isNilP ⟨w.heap.size, 0, none⟩ ⟨d, 0, none⟩ ((w.alloc (.cells #[.pointer (some ⟨d, 0, none⟩)] 106)).alloc (.cells #[.pointer (some ⟨5, 106, none⟩), .pointer (some ⟨w.heap.size, 0, none⟩), .int .u64 150] 154)) (by simp)
  have hlt : 3 < w.heap.size := lt_of_cell hg
  have hdl : d < w.heap.size := lt_of_cell h0
  have hg2 : ((w.alloc (.cells #[.pointer (some ⟨d, 0, none⟩)] 106)).alloc (.cells #[.pointer (some ⟨5, 106, none⟩), .pointer (some ⟨w.heap.size, 0, none⟩), .int .u64 150] 154)).cell? ⟨3, 0, none⟩ = some (.iface 189 (.agg #[.pointer (some ⟨5, 58, none⟩)])) := by
    rw [World.cell?_alloc_lt _ _ ⟨3, 0, none⟩ (by simp; omega), World.cell?_alloc_lt _ _ ⟨3, 0, none⟩ hlt]; exact hg
  have el := y_elemV ⟨w.heap.size, 0, none⟩ ⟨d, 0, none⟩ (((w.alloc (.cells #[.pointer (some ⟨d, 0, none⟩)] 106)).alloc (.cells #[.pointer (some ⟨5, 106, none⟩), .pointer (some ⟨w.heap.size, 0, none⟩), .int .u64 150] 154)).alloc (.cells #[.pointer (some ⟨5, 106, none⟩), .pointer (some ⟨w.heap.size, 0, none⟩), .int .u64 150] 154)) (by rw [World.cell?_alloc_lt _ _ ⟨w.heap.size, 0, none⟩ (by simp; omega)]; simp)
  have old : ∀ (o : Nat) (u : Value), w.cell? ⟨d, o, none⟩ = some u → ((((w.alloc (.cells #[.pointer (some ⟨d, 0, none⟩)] 106)).alloc (.cells #[.pointer (some ⟨5, 106, none⟩), .pointer (some ⟨w.heap.size, 0, none⟩), .int .u64 150] 154)).alloc (.cells #[.pointer (some ⟨5, 106, none⟩), .pointer (some ⟨w.heap.size, 0, none⟩), .int .u64 150] 154)).alloc (.cells #[.int .i64 c, .iface x v] 102)).cell? ⟨d, o, none⟩ = some u := fun o u h => by
    rw [World.cell?_alloc_lt _ _ ⟨d, o, none⟩ (by simp; omega), World.cell?_alloc_lt _ _ ⟨d, o, none⟩ (by simp; omega), World.cell?_alloc_lt _ _ ⟨d, o, none⟩ (by simp; omega), World.cell?_alloc_lt _ _ ⟨d, o, none⟩ hdl]; exact h
  have oldf : ∀ (o : Nat), w.frozen? ⟨d, o, none⟩ = false → ((((w.alloc (.cells #[.pointer (some ⟨d, 0, none⟩)] 106)).alloc (.cells #[.pointer (some ⟨5, 106, none⟩), .pointer (some ⟨w.heap.size, 0, none⟩), .int .u64 150] 154)).alloc (.cells #[.pointer (some ⟨5, 106, none⟩), .pointer (some ⟨w.heap.size, 0, none⟩), .int .u64 150] 154)).alloc (.cells #[.int .i64 c, .iface x v] 102)).frozen? ⟨d, o, none⟩ = false := fun o h => by
    rw [World.frozen?_alloc_old _ _ ⟨d, o, none⟩ (by simp; omega), World.frozen?_alloc_old _ _ ⟨d, o, none⟩ (by simp; omega), World.frozen?_alloc_old _ _ ⟨d, o, none⟩ (by simp; omega), World.frozen?_alloc_old _ _ ⟨d, o, none⟩ (Nat.ne_of_lt hdl)]; exact h
  have st := y_set d (w.heap.size + 1 + 1 + 1) c x v o0 o1 ((((w.alloc (.cells #[.pointer (some ⟨d, 0, none⟩)] 106)).alloc (.cells #[.pointer (some ⟨5, 106, none⟩), .pointer (some ⟨w.heap.size, 0, none⟩), .int .u64 150] 154)).alloc (.cells #[.pointer (some ⟨5, 106, none⟩), .pointer (some ⟨w.heap.size, 0, none⟩), .int .u64 150] 154)).alloc (.cells #[.int .i64 c, .iface x v] 102))
    (by rw [World.cell?_alloc_at _ _ _ _ (by simp)]; rfl)
    (by rw [World.cell?_alloc_at _ _ _ _ (by simp)]; rfl)
    (old 0 _ h0) (old 1 _ h1) (oldf 0 k0) (oldf 1 k1)
  clear old oldf h0 h1 k0 k1 hV hlt
  go_enter Tryz.func70, Tryz.ntmps70
  go_wp2
  refine wp_loop_rounds 1 ?_
  rw [rounds_succ]
  go_wp2
  go_ret
  refine ⟨rfl, _, ?_, rfl⟩
  exact ((((Below.refl w.heap.size w).alloc (Nat.le_refl _) _).alloc (by simp) _).alloc (by simp; omega) _).alloc (by simp; omega) _

end Go.Proofs.YtgdfeicojgnoaaaGreatDoor

namespace Go.Proofs.YtgdfeicojgnoaaaGreatDoor
open Go.RowKit Go.Extern.Stop Go.Stop Go.Extern
set_option linter.unusedVariables false
set_option linter.unusedSimpArgs false

theorem x_eqTypes (u v : Value) (w : World) : (binOp .eql 58 (.iface 102 u) (.iface 229 v)).run Tryz.prog w = .ok (.bool false) w := by
  have hi := Tryz.underlying58
  have h : ∀ d : Nat, (Op.equalIn (d + 1) 58 (.iface 102 u) (.iface 229 v)).run Tryz.prog w = .ok false w := fun d => by simp [Op.equalIn, run_underlying hi]
  simp only [binOp]
  simp [Op.equal, Op.maxDepth, h 9999]

set_option maxRecDepth 8000 in
set_option maxHeartbeats 4000000 in
theorem cIsWSame (c : Int) (a : Addr) (w : World) :
    Calls Tryz.prog 66 #[erV (.wrap c (.base a)), erV (.base a)] w fun e w' => e = .returned (.bool true) ∧ Below w.heap.size w w' := by
  have CU := hid (fun wx => cUnwrap c (.base a) wx)
  unfold erV at CU ⊢
  unfold erV
  obtain ⟨i, hi, hcmp⟩ := Option.map_eq_some_iff.1 x_comp
  obtain ⟨j, hj, hjs⟩ := Option.map_eq_some_iff.1 x_size
  have h8 := @run_callFunc_extern Tryz.prog 103 _ Extern.ReflectliteType.typeOf Tryz.func103 (by kernel_rfl) (by kernel_rfl) (by kernel_rfl) (by kernel_rfl)
  have h32 := @run_callFunc_extern Tryz.prog 198 _ (Extern.ReflectliteType.method fun t => do Extern.Rtype.noPackHeld "Comparable" t; pure (.bool (← typeInfo t).comparable)) Tryz.func198 (by kernel_rfl) (by kernel_rfl) (by kernel_rfl) (by kernel_rfl)
  have tT := x_typeOf
  have cT := x_comparable
  have mR := x_method
  generalize (Extern.ReflectliteType.method fun t => do Extern.Rtype.noPackHeld "Comparable" t; pure (.bool (← typeInfo t).comparable)) = M at h32 cT
  have qT := x_eqTypes
  have nT := x_noIsT
  have uT := x_hasUnT
  have mU := x_unwrap
  have heq := fun wx => run_eql_iface_ptr_same (P := Tryz.prog) wx a Tryz.underlying58 Tryz.underlying229 hi hcmp hj
  go_enter Tryz.func66, Tryz.ntmps66
  go_wp2
  refine wp_loop_rounds 2 ?_
  rw [rounds_succ]
  go_wp2_with fail
  refine (CU.out _).mono ?_
  rintro e w1 ⟨rfl, hb1⟩
  have HB1 := hid hb1
  clear hb1
  go_wp2_with fail
  rw [rounds_succ]
  go_wp2
  go_ret
  exact ⟨rfl, HB1.out⟩

set_option maxRecDepth 8000 in
set_option maxHeartbeats 4000000 in
theorem cIsWOther (c : Int) (a b : Addr) (ca cb : Array Value) (ta tb : TypeId) (w : World) (hne : a ≠ b) (ha : w.heap[a.block]? = some (.cells ca ta (0, 0))) (hb : w.heap[b.block]? = some (.cells cb tb (0, 0))) :
    Calls Tryz.prog 66 #[erV (.wrap c (.base a)), erV (.base b)] w fun e w' => e = .returned (.bool false) ∧ Below w.heap.size w w' := by
  have CU := hid (fun wx => cUnwrap c (.base a) wx)
  unfold erV at CU ⊢
  unfold erV
  obtain ⟨i, hi, hcmp⟩ := Option.map_eq_some_iff.1 x_comp
  obtain ⟨j, hj, hjs⟩ := Option.map_eq_some_iff.1 x_size
  have h8 := @run_callFunc_extern Tryz.prog 103 _ Extern.ReflectliteType.typeOf Tryz.func103 (by kernel_rfl) (by kernel_rfl) (by kernel_rfl) (by kernel_rfl)
  have h32 := @run_callFunc_extern Tryz.prog 198 _ (Extern.ReflectliteType.method fun t => do Extern.Rtype.noPackHeld "Comparable" t; pure (.bool (← typeInfo t).comparable)) Tryz.func198 (by kernel_rfl) (by kernel_rfl) (by kernel_rfl) (by kernel_rfl)
  have tT := x_typeOf
  have cT := x_comparable
  have mR := x_method
  generalize (Extern.ReflectliteType.method fun t => do Extern.Rtype.noPackHeld "Comparable" t; pure (.bool (← typeInfo t).comparable)) = M at h32 cT
  have qT := x_eqTypes
  have nT := x_noIsT
  have uT := x_hasUnT
  have mU := x_unwrap
  have nE := x_noIsE
  have uE := x_noUnE
  have vE := x_noUsE
  have HEQ := hid (fun wx (hx : Below w.heap.size w wx) => run_eql_iface_ptr_other (P := Tryz.prog) wx Tryz.underlying58 Tryz.underlying229 hi hcmp hj (by rw [hjs]; decide) hne ((hx.block _ (lt_of_heap ha)).trans ha) ((hx.block _ (lt_of_heap hb)).trans hb))
  go_enter Tryz.func66, Tryz.ntmps66
  go_wp2
  refine wp_loop_rounds 2 ?_
  rw [rounds_succ]
  go_wp2_with fail
  refine (CU.out _).mono ?_
  rintro e w1 ⟨rfl, hb1⟩
  have HB1 := hid hb1
  have heq := HEQ.out _ hb1
  clear hb1
  go_wp2_with fail
  rw [rounds_succ]
  go_wp2
  go_ret
  exact ⟨rfl, HB1.out⟩

theorem cNotSo (c : Int) (a : Addr) (w : World) (h : w.cell? ⟨1, 0, none⟩ = some (erV (.base a))) :
    Calls Tryz.prog 106 #[.int .i64 c] w fun e w' => e = .returned (erV (.wrap c (.base a))) ∧ w' = w := by
  unfold erV
  unfold erV at h ⊢
  go_enter Tryz.func106, Tryz.ntmps106
  go_wp2
  go_ret
  exact ⟨rfl, rfl⟩

theorem cCodeNil (w : World) :
    Calls Tryz.prog 31 #[.nilIface] w fun e w' => e = .returned (.int .i64 0) ∧ Below w.heap.size w w' := by
  have C := hid cAsNil
  have HB := hid ((Below.refl w.heap.size w).alloc (Nat.le_refl _) (.cells #[.int .i64 0, .nilIface] 102))
  go_enter Tryz.func31, Tryz.ntmps31
  go_wp2_with fail
  refine (C.out _ _).mono ?_
  rintro e w1 ⟨rfl, hw⟩
  obtain rfl := hw.symm
  go_wp2_with fail
  go_ret
  exact ⟨rfl, HB.out⟩

/-- The library's type of errors, where it lies. -/
def HanAt (w : World) : Prop := w.cell? ⟨3, 0, none⟩ = some (.iface 189 (.agg #[.pointer (some ⟨5, 58, none⟩)]))

theorem HanAt.below {w w' : World} (h : HanAt w) (hb : Below w.heap.size w w') : HanAt w' := (hb.cell (p := ⟨3, 0, none⟩) (lt_of_cell h)).trans h

set_option maxRecDepth 8000 in
theorem cCodeOf (c : Int) (a : Addr) (w : World) (hH : HanAt w) :
    Calls Tryz.prog 31 #[erV (.wrap c (.base a))] w fun e w' => e = .returned (.int .i64 c) ∧ Below w.heap.size w w' := by
  have HB := hid ((Below.refl w.heap.size w).alloc (Nat.le_refl _) (.cells #[.int .i64 0, .nilIface] 102))
  have M := hid (heap_alloc_new w (.cells #[.int .i64 0, .nilIface] 102))
  have C := hid (cAsHit c 229 (.pointer (some a)) w.heap.size (.int .i64 0) .nilIface (w.alloc (.cells #[.int .i64 0, .nilIface] 102)) (hH.below HB.out) (Lib.cell_of_heap M.out 0) (Lib.cell_of_heap M.out 1) (Lib.frozen_of_heap M.out 0) (Lib.frozen_of_heap M.out 1))
  unfold erV
  unfold erV
  go_enter Tryz.func31, Tryz.ntmps31
  go_wp2_with fail
  refine C.out.mono ?_
  rintro e w1 ⟨rfl, W, hW, rfl⟩
  have hM : W.heap[w.heap.size]? = some (.cells #[.int .i64 0, .nilIface] 102 (0, 0)) := (hW.block _ (lt_of_heap M.out)).trans M.out
  have c0 := Lib.cell_of_heap hM 0
  have c1 := Lib.cell_of_heap hM 1
  have HBW := hid ((HB.out.trans (hW.mono HB.out.size)))
  go_wp2_with fail
  go_ret
  exact ⟨rfl, (HBW.out.setCell (p := ⟨w.heap.size, 0, none⟩) (Nat.le_refl _) _).setCell (p := ⟨w.heap.size, 1, none⟩) (Nat.le_refl _) _⟩

end Go.Proofs.YtgdfeicojgnoaaaGreatDoor
