/- Errors that wrap one another: errors.Is. errors.Is of an error that wraps at most one other, against a sentinel. errors.As at a concrete target, a variable of the program's own struct that wraps why in a code: nil is none, the outermost code is set. -/
import Derived.Test.YtajlgnlifffanaaGreatDoorM1
import Derived.Test.YtajlgnlifffanaaGreatDoorM2
import Derived.LaidEql
import Derived.Stop.Asserts
import Derived.RowKitTokens
import Derived.WalkKit
namespace Go.Proofs.YtajlgnlifffanaaGreatDoor
open Go.RowKit Go.Extern.Stop Go.Stop Go.Extern
set_option linter.unusedVariables false
set_option linter.unusedSimpArgs false

/-- An error: one of errors.New's make, or one that wraps another in a code. -/
inductive Er where
  | base (a : Addr)
  | wrap (c : Int) (e : Er)

def erV : Er → Value
  | .base a => .iface 229 (.pointer (some a))
  | .wrap c e => .iface 102 (.agg #[.int .i64 c, erV e])

def erB : Er → Addr
  | .base a => a
  | .wrap _ e => erB e

def erD : Er → Nat
  | .base _ => 0
  | .wrap _ e => erD e + 1

theorem x_typeOf (v : Value) (w : World) : (Extern.ReflectliteType.typeOf #[.iface 229 v]).run Tryz.prog w = .ok (.iface 189 (.agg #[.pointer (some ⟨5, 229, none⟩)])) w := by kernel_rfl
theorem x_comparable (w : World) : ((Extern.ReflectliteType.method fun t => do Extern.Rtype.noPackHeld "Comparable" t; pure (.bool (← typeInfo t).comparable)) #[.agg #[.pointer (some ⟨5, 229, none⟩)]]).run Tryz.prog w = .ok (.bool true) w := by kernel_rfl
theorem x_method (v : Value) (w : World) : (Go.method 361 189 v "Comparable").run Tryz.prog w = .ok (198, v) w := by kernel_rfl
theorem x_comp : (Tryz.prog.info? 229).map (·.comparable) = some true := by kernel_rfl
theorem x_size : (Tryz.prog.info? 249).map (·.size) = some 1 := by kernel_rfl
theorem x_noIsE (v : Value) (xT : TypeId) (w : World) : (Instr.typeAssert (.iface 229 v) xT 191 true).run Tryz.prog w = .ok (.tuple #[.nilIface, .bool false]) w := run_typeAssert_lacksB Tryz.underlying191 (by kernel_rfl) (by kernel_rfl) v xT w
theorem x_noUnE (v : Value) (xT : TypeId) (w : World) : (Instr.typeAssert (.iface 229 v) xT 194 true).run Tryz.prog w = .ok (.tuple #[.nilIface, .bool false]) w := run_typeAssert_lacksB Tryz.underlying194 (by kernel_rfl) (by kernel_rfl) v xT w
theorem x_noUsE (v : Value) (xT : TypeId) (w : World) : (Instr.typeAssert (.iface 229 v) xT 196 true).run Tryz.prog w = .ok (.tuple #[.nilIface, .bool false]) w := run_typeAssert_lacksB Tryz.underlying196 (by kernel_rfl) (by kernel_rfl) v xT w
theorem x_noIsT (v : Value) (xT : TypeId) (w : World) : (Instr.typeAssert (.iface 102 v) xT 191 true).run Tryz.prog w = .ok (.tuple #[.nilIface, .bool false]) w := run_typeAssert_lacksB Tryz.underlying191 (by kernel_rfl) (by kernel_rfl) v xT w
theorem x_hasUnT (v : Value) (xT : TypeId) (w : World) : (Instr.typeAssert (.iface 102 v) xT 194 true).run Tryz.prog w = .ok (.tuple #[.iface 102 v, .bool true]) w := run_typeAssert_hasB Tryz.underlying194 (by kernel_rfl) v xT w
theorem x_unwrap (v : Value) (w : World) : (Go.method 361 102 v "Unwrap").run Tryz.prog w = .ok (186, v) w := by kernel_rfl

theorem cUnwrap (c : Int) (e : Er) (w : World) :
    Calls Tryz.prog 186 #[.agg #[.int .i64 c, erV e]] w fun r w' => r = .returned (erV e) ∧ Below w.heap.size w w' := by
  cases e with
  | base a =>
    unfold erV
    go_enter Tryz.func186, Tryz.ntmps186
    go_wp2
    go_ret
    exact ⟨rfl, (Below.refl _ _).alloc (Nat.le_refl _) _⟩
  | wrap d e =>
    unfold erV
    go_enter Tryz.func186, Tryz.ntmps186
    go_wp2
    go_ret
    exact ⟨rfl, (Below.refl _ _).alloc (Nat.le_refl _) _⟩

end Go.Proofs.YtajlgnlifffanaaGreatDoor

namespace Go.Proofs.YtajlgnlifffanaaGreatDoor
open Go.RowKit Go.Extern.Stop Go.Stop Go.Extern
set_option linter.unusedVariables false
set_option linter.unusedSimpArgs false

set_option maxRecDepth 8000 in
theorem cIsNil (b : Addr) (w : World) :
    Calls Tryz.prog 66 #[.nilIface, erV (.base b)] w fun e w' => e = .returned (.bool false) ∧ w' = w := by
  unfold erV
  have hn := run_eql_iface_nil_left (P := Tryz.prog) w 229 (.pointer (some b)) Tryz.underlying58
  go_enter Tryz.func66, Tryz.ntmps66
  go_wp2
  go_ret
  exact ⟨rfl, rfl⟩

set_option maxRecDepth 8000 in
theorem cIsSame (a : Addr) (w : World) :
    Calls Tryz.prog 66 #[erV (.base a), erV (.base a)] w fun e w' => e = .returned (.bool true) ∧ w' = w := by
  unfold erV
  obtain ⟨i, hi, hcmp⟩ := Option.map_eq_some_iff.1 x_comp
  obtain ⟨j, hj, hjs⟩ := Option.map_eq_some_iff.1 x_size
  have h8 := @run_callFunc_extern Tryz.prog 103 _ Extern.ReflectliteType.typeOf Tryz.func103 (by kernel_rfl) (by kernel_rfl) (by kernel_rfl) (by kernel_rfl)
  have h32 := @run_callFunc_extern Tryz.prog 198 _ (Extern.ReflectliteType.method fun t => do Extern.Rtype.noPackHeld "Comparable" t; pure (.bool (← typeInfo t).comparable)) Tryz.func198 (by kernel_rfl) (by kernel_rfl) (by kernel_rfl) (by kernel_rfl)
  have tT := x_typeOf
  have cT := x_comparable
  have mR := x_method
  generalize (Extern.ReflectliteType.method fun t => do Extern.Rtype.noPackHeld "Comparable" t; pure (.bool (← typeInfo t).comparable)) = M at h32 cT
  have heq := run_eql_iface_ptr_same (P := Tryz.prog) w a Tryz.underlying58 Tryz.underlying229 hi hcmp hj
  go_enter Tryz.func66, Tryz.ntmps66
  go_wp2
  refine wp_loop_rounds 1 ?_
  rw [rounds_succ]
  go_wp2
  go_ret
  exact ⟨rfl, rfl⟩

set_option maxRecDepth 8000 in
theorem cIsOther (a b : Addr) (ca cb : Array Value) (ta tb : TypeId) (w : World) (hne : a ≠ b) (ha : w.heap[a.block]? = some (.cells ca ta (0, 0))) (hb : w.heap[b.block]? = some (.cells cb tb (0, 0))) :
    Calls Tryz.prog 66 #[erV (.base a), erV (.base b)] w fun e w' => e = .returned (.bool false) ∧ w' = w := by
  unfold erV
  obtain ⟨i, hi, hcmp⟩ := Option.map_eq_some_iff.1 x_comp
  obtain ⟨j, hj, hjs⟩ := Option.map_eq_some_iff.1 x_size
  have h8 := @run_callFunc_extern Tryz.prog 103 _ Extern.ReflectliteType.typeOf Tryz.func103 (by kernel_rfl) (by kernel_rfl) (by kernel_rfl) (by kernel_rfl)
  have h32 := @run_callFunc_extern Tryz.prog 198 _ (Extern.ReflectliteType.method fun t => do Extern.Rtype.noPackHeld "Comparable" t; pure (.bool (← typeInfo t).comparable)) Tryz.func198 (by kernel_rfl) (by kernel_rfl) (by kernel_rfl) (by kernel_rfl)
  have tT := x_typeOf
  have cT := x_comparable
  have mR := x_method
  generalize (Extern.ReflectliteType.method fun t => do Extern.Rtype.noPackHeld "Comparable" t; pure (.bool (← typeInfo t).comparable)) = M at h32 cT
  have nE := x_noIsE
  have uE := x_noUnE
  have vE := x_noUsE
  have heq := run_eql_iface_ptr_other (P := Tryz.prog) w Tryz.underlying58 Tryz.underlying229 hi hcmp hj (by rw [hjs]; decide) hne ha hb
  go_enter Tryz.func66, Tryz.ntmps66
  go_wp2
  refine wp_loop_rounds 1 ?_
  rw [rounds_succ]
  go_wp2
  go_ret
  exact ⟨rfl, rfl⟩

end Go.Proofs.YtajlgnlifffanaaGreatDoor

namespace Go.Proofs.YtajlgnlifffanaaGreatDoor
open Go.RowKit Go.Extern.Stop Go.Stop Go.Extern
set_option linter.unusedVariables false
set_option linter.unusedSimpArgs false

theorem cAsNil (t : Value) (w : World) :
    Calls Tryz.prog 70 #[.nilIface, t] w fun e w' => e = .returned (.bool false) ∧ w' = w := by
  go_enter Tryz.func70, Tryz.ntmps70
  go_wp2
  go_ret
  exact ⟨rfl, rfl⟩

theorem y_valueOfP (t : Addr) (w : World) : (ReflectliteValue.unpack (.iface 106 (.pointer (some t)))).run Tryz.prog w
    = .ok (.agg #[.pointer (some ⟨5, 106, none⟩), .pointer (some ⟨w.heap.size, 0, none⟩), .int .u64 150]) (w.alloc (.cells #[.pointer (some t)] 106)) := by kernel_rfl
theorem y_typeP (a : Addr) (w : World) : (ReflectliteValue.methodAny (ReflectliteValue.valueError "reflectlite.Value.Type" 0) (fun t _ _ _ => ReflectliteType.toType t) #[.agg #[.pointer (some ⟨5, 106, none⟩), .pointer (some a), .int .u64 150]]).run Tryz.prog w
    = .ok (.iface 189 (.agg #[.pointer (some ⟨5, 106, none⟩)])) w := by kernel_rfl
theorem y_methodKind (h : Value) (w : World) : (Go.method 361 189 (.agg #[h]) "Kind").run Tryz.prog w = .ok (181, h) w := by kernel_rfl
theorem y_kindP (w : World) : ((ReflectliteType.abiMethod fun t => (fun a : Nat => Value.int IntKind.u8 (a : Int)) <$> Rtype.kind t) #[.pointer (some ⟨5, 106, none⟩)]).run Tryz.prog w = .ok (.int .u8 22) w := by kernel_rfl
theorem y_kindT (w : World) : ((ReflectliteType.abiMethod fun t => (fun a : Nat => Value.int IntKind.u8 (a : Int)) <$> Rtype.kind t) #[.pointer (some ⟨5, 102, none⟩)]).run Tryz.prog w = .ok (.int .u8 25) w := by kernel_rfl
theorem y_rlm (z : Sem Value) (f : TypeId → Addr → Nat → Nat → Sem Value) (v : Value) :
    ReflectliteValue.method z f #[v] = (do match ← ReflectliteValue.parts v with | none => z | some (t, a, fl) => f t a fl (fl % 32)) := rfl
theorem y_partsP (a : Addr) (w : World) : (ReflectliteValue.parts (.agg #[.pointer (some ⟨5, 106, none⟩), .pointer (some a), .int .u64 150])).run Tryz.prog w = .ok (some (106, a, 150)) w := by kernel_rfl
theorem y_isNilP (a p : Addr) (W : World) (ha : W.cell? a = some (.pointer (some p))) :
    (ReflectliteValue.method (ReflectliteValue.valueError "reflectlite.Value.IsNil" 0) ReflectliteValue.isNil #[.agg #[.pointer (some ⟨5, 106, none⟩), .pointer (some a), .int .u64 150]]).run Tryz.prog W = .ok (.bool false) W := by
  rw [y_rlm]
  simp only [Sem.run_bind, y_partsP, Result.andThen]
  simp [ReflectliteValue.isNil, loadVar, isAgg, underlying, Tryz.underlying106, ha, Result.andThen]
theorem y_methodElem (h : Value) (w : World) : (Go.method 361 189 (.agg #[h]) "Elem").run Tryz.prog w = .ok (199, .agg #[h]) w := by kernel_rfl
theorem y_methodImplements (h : Value) (w : World) : (Go.method 361 189 (.agg #[h]) "Implements").run Tryz.prog w = .ok (200, .agg #[h]) w := by kernel_rfl
theorem y_methodAssignableTo (h : Value) (w : World) : (Go.method 361 189 (.agg #[h]) "AssignableTo").run Tryz.prog w = .ok (197, .agg #[h]) w := by kernel_rfl
theorem y_elemP (w : World) : (ReflectliteType.method ReflectliteType.elem #[.agg #[.pointer (some ⟨5, 106, none⟩)]]).run Tryz.prog w = .ok (.iface 189 (.agg #[.pointer (some ⟨5, 102, none⟩)])) w := by kernel_rfl
theorem y_implements (w : World) : (ReflectliteType.relation "Implements" ReflectliteType.implements_ #[.agg #[.pointer (some ⟨5, 102, none⟩)], .iface 189 (.agg #[.pointer (some ⟨5, 58, none⟩)])]).run Tryz.prog w = .ok (.bool true) w := by kernel_rfl
theorem y_typeOfT (v : Value) (w : World) : (ReflectliteType.typeOf #[.iface 102 v]).run Tryz.prog w = .ok (.iface 189 (.agg #[.pointer (some ⟨5, 102, none⟩)])) w := by kernel_rfl
theorem y_assignable (w : World) : (ReflectliteType.relation "AssignableTo" ReflectliteType.assignableTo #[.agg #[.pointer (some ⟨5, 102, none⟩)], .iface 189 (.agg #[.pointer (some ⟨5, 102, none⟩)])]).run Tryz.prog w = .ok (.bool true) w := by kernel_rfl
theorem y_valueOfT (c : Int) (x : TypeId) (v : Value) (w : World) : (ReflectliteValue.unpack (.iface 102 (.agg #[.int .i64 c, .iface x v]))).run Tryz.prog w
    = .ok (.agg #[.pointer (some ⟨5, 102, none⟩), .pointer (some ⟨w.heap.size, 0, none⟩), .int .u64 153]) (w.alloc (.cells #[.int .i64 c, .iface x v] 102)) := by kernel_rfl
theorem y_elemOfP (w : World) : (Rtype.elem? 106).run Tryz.prog w = .ok (some 102) w := by kernel_rfl
theorem y_mkT (p : Addr) (w : World) : (ReflectliteValue.mk 102 p ReflectliteValue.flagAddr).run Tryz.prog w = .ok (.agg #[.pointer (some ⟨5, 102, none⟩), .pointer (some p), .int .u64 409]) w := by kernel_rfl
theorem y_elemV (a p : Addr) (W : World) (ha : W.cell? a = some (.pointer (some p))) :
    (ReflectliteValue.method (ReflectliteValue.valueError "reflectlite.Value.Elem" 0) ReflectliteValue.elem #[.agg #[.pointer (some ⟨5, 106, none⟩), .pointer (some a), .int .u64 150]]).run Tryz.prog W
      = .ok (.agg #[.pointer (some ⟨5, 102, none⟩), .pointer (some p), .int .u64 409]) W := by
  rw [y_rlm]
  simp only [Sem.run_bind, y_partsP, Result.andThen]
  simp [ReflectliteValue.elem, loadVar, isAgg, underlying, Tryz.underlying106, ha, Result.andThen, y_elemOfP, y_mkT]
theorem y_rls (v x : Value) : ReflectliteValue.set #[v, x] = (do
    let (some (dst, a, fl), some (src, b, _)) := (← ReflectliteValue.parts v, ← ReflectliteValue.parts x)
      | unsupported (.noEntry "extern/(internal/reflectlite.Value).Set.zeroValue")
    if fl / ReflectliteValue.flagAddr % 2 == 0 then unsupported (.noEntry "extern/(internal/reflectlite.Value).Set.unaddressable")
    let val ← loadVar src b
    if ← Rtype.directlyAssignable dst src then storeVar dst a val
    else if ← Rtype.implements dst src then
      if (← Rtype.kind src) == 20 then
        match val with
        | .nilIface => unsupported (.noEntry "extern/reflectlite: a nil value of one interface type handed on as a value of another")
        | _ => storeVar dst a val
      else storeVar dst a (.iface src val)
    else panicString ("reflectlite.Set: value of type " ++ (← Rtype.spelt src) ++ " is not assignable to type " ++ (← Rtype.spelt dst))
    pure (.tuple #[])) := rfl
theorem y_partsTa (a : Addr) (w : World) : (ReflectliteValue.parts (.agg #[.pointer (some ⟨5, 102, none⟩), .pointer (some a), .int .u64 409])).run Tryz.prog w = .ok (some (102, a, 409)) w := by kernel_rfl
theorem y_partsT (a : Addr) (w : World) : (ReflectliteValue.parts (.agg #[.pointer (some ⟨5, 102, none⟩), .pointer (some a), .int .u64 153])).run Tryz.prog w = .ok (some (102, a, 153)) w := by kernel_rfl
theorem y_direct (w : World) : (Rtype.directlyAssignable 102 102).run Tryz.prog w = .ok true w := by kernel_rfl
theorem y_sizeT (w : World) : (sizeOf 102).run Tryz.prog w = .ok 2 w := by kernel_rfl
theorem y_loadT (b : Nat) (c : Int) (x : TypeId) (v : Value) (W : World) (h0 : W.cell? ⟨b, 0, none⟩ = some (.int .i64 c)) (h1 : W.cell? ⟨b, 1, none⟩ = some (.iface x v)) : (loadVar 102 ⟨b, 0, none⟩).run Tryz.prog W = .ok (.agg #[.int .i64 c, .iface x v]) W := by
  simp [loadVar, isAgg, underlying, Tryz.underlying102, Tryz.isAgg102, Tryz.sizeOf102, y_sizeT, Result.andThen, go_sem, h0, h1, Addr.add]
theorem y_storeT (d : Nat) (c : Int) (x : TypeId) (v o0 o1 : Value) (W : World) (h0 : W.cell? ⟨d, 0, none⟩ = some o0) (h1 : W.cell? ⟨d, 1, none⟩ = some o1) (f0 : W.frozen? ⟨d, 0, none⟩ = false) (f1 : W.frozen? ⟨d, 1, none⟩ = false) : (storeVar 102 ⟨d, 0, none⟩ (.agg #[.int .i64 c, .iface x v])).run Tryz.prog W = .ok () ((W.setCell ⟨d, 0, none⟩ (.int .i64 c)).setCell ⟨d, 1, none⟩ (.iface x v)) := by
  simp [storeVar, isAgg, underlying, Tryz.underlying102, Tryz.isAgg102, Value.cells, storeCells, Addr.add, go_sem, h0, h1, f0, f1]
/-- (Value).Set: the variable gets what the Value's own variable holds. -/
theorem y_set (d b : Nat) (c : Int) (x : TypeId) (v o0 o1 : Value) (W : World) (b0 : W.cell? ⟨b, 0, none⟩ = some (.int .i64 c)) (b1 : W.cell? ⟨b, 1, none⟩ = some (.iface x v)) (h0 : W.cell? ⟨d, 0, none⟩ = some o0) (h1 : W.cell? ⟨d, 1, none⟩ = some o1) (f0 : W.frozen? ⟨d, 0, none⟩ = false) (f1 : W.frozen? ⟨d, 1, none⟩ = false) :
    (ReflectliteValue.set #[.agg #[.pointer (some ⟨5, 102, none⟩), .pointer (some ⟨d, 0, none⟩), .int .u64 409], .agg #[.pointer (some ⟨5, 102, none⟩), .pointer (some ⟨b, 0, none⟩), .int .u64 153]]).run Tryz.prog W
      = .ok (.tuple #[]) ((W.setCell ⟨d, 0, none⟩ (.int .i64 c)).setCell ⟨d, 1, none⟩ (.iface x v)) := by
  rw [y_rls]
  simp only [Sem.run_bind, y_partsTa, y_partsT, Result.andThen]
  simp [ReflectliteValue.flagAddr, y_loadT b c x v W b0 b1, Result.andThen, y_direct, y_storeT d c x v o0 o1 W h0 h1 f0 f1]

end Go.Proofs.YtajlgnlifffanaaGreatDoor
