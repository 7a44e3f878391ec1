/- What the law on what is asked asks of Ticked and Asks (mathematics alone). Errors that wrap one another: errors.Is. errors.Is of an error that wraps at most one other, against a sentinel. -/
import Derived.Test.YtgdfeicojgnoaaaGreatDoorM32
import Derived.Test.YtgdfeicojgnoaaaGreatDoorM21
import Derived.Test.YtgdfeicojgnoaaaGreatDoorM19
import Derived.Test.YtgdfeicojgnoaaaGreatDoorM14
import Derived.Test.YtgdfeicojgnoaaaGreatDoorM10
import Derived.Test.YtgdfeicojgnoaaaGreatDoorM1
import Derived.Test.YtgdfeicojgnoaaaGreatDoorM2
import Derived.LaidEql
import Derived.Stop.Asserts
import Derived.RowKitTokens
namespace Go.Proofs.YtgdfeicojgnoaaaGreatDoor
open Go.RowKit
set_option linter.unusedVariables false

theorem gate_ands {g : Gt} (h : gateB g = true) : g_wordB g.name = true ∧ handsB g.hands = true ∧ g_skB g.skew = true ∧ utmB g.now = true ∧ tableB g.ask = true ∧ tableB g.hrd = true := by
  unfold gateB at h
  simpa [Bool.and_eq_true] using h

theorem gate_of_ands {g : Gt} (h1 : g_wordB g.name = true) (h2 : handsB g.hands = true) (h3 : g_skB g.skew = true) (h4 : utmB g.now = true) (h5 : tableB g.ask = true) (h6 : tableB g.hrd = true) : gateB g = true := by
  unfold gateB
  rw [h1, h2, h3, h4, h5, h6]
  rfl

theorem tick_no {g : Gt} {d : Int} (h : gateB g = false) : tickG g d = (zeroG, false) := if_neg (by rw [h]; exact Bool.false_ne_true)

theorem tick_same {g : Gt} {d : Int} (hg : gateB g = true) (h : (tickG g d).2 = false) : (tickG g d).1 = g := by
  unfold tickG at h ⊢
  rw [if_pos hg] at h ⊢
  split at h
  · cases h
  · rename_i hd
    rw [if_neg hd]

theorem tick_law {g : Gt} {d : Int} (hg : gateB g = true) (h : (tickG g d).2 = true) : gateB (tickG g d).1 = true ∧ g.now ≤ (tickG g d).1.now ∧ (tickG g d).1.ask = sweptT g.ask (tickG g d).1.now ∧ (tickG g d).1.hrd = sweptT g.hrd (tickG g d).1.now := by
  obtain ⟨h1, h2, h3, h4, h5, h6⟩ := gate_ands hg
  have hd : 0 ≤ d ∧ d ≤ 3155759999 := by
    by_cases hd : 0 ≤ d ∧ d ≤ 3155759999
    · exact hd
    · unfold tickG at h
      rw [if_pos hg, if_neg hd] at h
      cases h
  have hn : 0 ≤ g.now ∧ g.now ≤ 3155759999 := by
    unfold utmB at h4
    exact of_decide_eq_true h4
  have hl := later_in hn hd
  have hu : utmB (laterOf g.now d) = true := by
    unfold utmB
    exact decide_eq_true hl
  have ha : (tableB g.ask && utmB (laterOf g.now d)) = true := by rw [h5, hu]; rfl
  have hr : (tableB g.hrd && utmB (laterOf g.now d)) = true := by rw [h6, hu]; rfl
  have ea := sweptT_t ha
  have er := sweptT_t hr
  have ka := swept_ok ha
  have kr := swept_ok hr
  rw [tickG_yes hg hd]
  refine ⟨gate_of_ands h1 h2 h3 hu (by rw [ea] at ka; exact ka) (by rw [er] at kr; exact kr), ?_, ea.symm, er.symm⟩
  show g.now ≤ laterOf g.now d
  unfold laterOf
  rw [if_pos ⟨hn, by omega, by omega⟩]
  split
  · omega
  · split <;> omega

theorem ask_law (g : Gt) (id : ByteArray) (til : Int) :
    ((asksG g id til).2 = 0 ∧ holdsT (asksG g id til).1.ask id = true ∧ gateB (asksG g id til).1 = true) ∨ ((asksG g id til).2 = 3 ∧ (asksG g id til).1 = zeroG) ∨ (((asksG g id til).2 = 1 ∨ (asksG g id til).2 = 2) ∧ (asksG g id til).1 = g) := by
  by_cases h : (gateB g && u_idOk id && utmB til) = true
  · rw [asksG_yes h]
    rw [Bool.and_eq_true, Bool.and_eq_true] at h
    obtain ⟨h1, h2, h3, h4, h5, h6⟩ := gate_ands h.1.1
    have hE : (tableB g.ask && u_idOk id && utmB til) = true := by rw [h5, h.1.2, h.2]; rfl
    have hlaw := ent_law g.ask id til
    rw [enteredT_t hE] at hlaw
    rcases hlaw with ⟨a, _⟩ | ⟨a, b, _⟩ | ⟨a, b, _, _⟩ | ⟨a, b, _, c, _⟩
    · exfalso
      unfold enterT at a
      split at a
      · cases a
      · split at a <;> cases a
    · refine .inr (.inr ⟨.inl a, ?_⟩)
      show askedG g (enterT g.ask id til).1 = g
      rw [b]
      rfl
    · refine .inr (.inr ⟨.inr a, ?_⟩)
      show askedG g (enterT g.ask id til).1 = g
      rw [b]
      rfl
    · exact .inl ⟨a, c, gate_of_ands h1 h2 h3 h4 b h6⟩
  · refine .inr (.inl ?_)
    rw [show asksG g id til = (zeroG, 3) from if_neg h]
    exact ⟨rfl, rfl⟩

end Go.Proofs.YtgdfeicojgnoaaaGreatDoor

namespace Go.Proofs.YtgdfeicojgnoaaaGreatDoor
open Go.RowKit Go.Extern.Stop Go.Stop Go.Extern
set_option linter.unusedVariables false
set_option linter.unusedSimpArgs false

/-- An error: one of errors.New's make, or one that wraps another in a code. -/
inductive Er where
  | base (a : Addr)
  | wrap (c : Int) (e : Er)

def erV : Er → Value
  | .base a => .iface 229 (.pointer (some a))
  | .wrap c e => .iface 102 (.agg #[.int .i64 c, erV e])

def erB : Er → Addr
  | .base a => a
  | .wrap _ e => erB e

def erD : Er → Nat
  | .base _ => 0
  | .wrap _ e => erD e + 1

theorem x_typeOf (v : Value) (w : World) : (Extern.ReflectliteType.typeOf #[.iface 229 v]).run Tryz.prog w = .ok (.iface 189 (.agg #[.pointer (some ⟨5, 229, none⟩)])) w := by kernel_rfl
theorem x_comparable (w : World) : ((Extern.ReflectliteType.method fun t => do Extern.Rtype.noPackHeld "Comparable" t; pure (.bool (← typeInfo t).comparable)) #[.agg #[.pointer (some ⟨5, 229, none⟩)]]).run Tryz.prog w = .ok (.bool true) w := by kernel_rfl
theorem x_method (v : Value) (w : World) : (Go.method 361 189 v "Comparable").run Tryz.prog w = .ok (198, v) w := by kernel_rfl
theorem x_comp : (Tryz.prog.info? 229).map (·.comparable) = some true := by kernel_rfl
theorem x_size : (Tryz.prog.info? 249).map (·.size) = some 1 := by kernel_rfl
theorem x_noIsE (v : Value) (xT : TypeId) (w : World) : (Instr.typeAssert (.iface 229 v) xT 191 true).run Tryz.prog w = .ok (.tuple #[.nilIface, .bool false]) w := run_typeAssert_lacksB Tryz.underlying191 (by kernel_rfl) (by kernel_rfl) v xT w
theorem x_noUnE (v : Value) (xT : TypeId) (w : World) : (Instr.typeAssert (.iface 229 v) xT 194 true).run Tryz.prog w = .ok (.tuple #[.nilIface, .bool false]) w := run_typeAssert_lacksB Tryz.underlying194 (by kernel_rfl) (by kernel_rfl) v xT w
theorem x_noUsE (v : Value) (xT : TypeId) (w : World) : (Instr.typeAssert (.iface 229 v) xT 196 true).run Tryz.prog w = .ok (.tuple #[.nilIface, .bool false]) w := run_typeAssert_lacksB Tryz.underlying196 (by kernel_rfl) (by kernel_rfl) v xT w
theorem x_noIsT (v : Value) (xT : TypeId) (w : World) : (Instr.typeAssert (.iface 102 v) xT 191 true).run Tryz.prog w = .ok (.tuple #[.nilIface, .bool false]) w := run_typeAssert_lacksB Tryz.underlying191 (by kernel_rfl) (by kernel_rfl) v xT w
theorem x_hasUnT (v : Value) (xT : TypeId) (w : World) : (Instr.typeAssert (.iface 102 v) xT 194 true).run Tryz.prog w = .ok (.tuple #[.iface 102 v, .bool true]) w := run_typeAssert_hasB Tryz.underlying194 (by kernel_rfl) v xT w
theorem x_unwrap (v : Value) (w : World) : (Go.method 361 102 v "Unwrap").run Tryz.prog w = .ok (186, v) w := by kernel_rfl

theorem cUnwrap (c : Int) (e : Er) (w : World) :
    Calls Tryz.prog 186 #[.agg #[.int .i64 c, erV e]] w fun r w' => r = .returned (erV e) ∧ Below w.heap.size w w' := by
  cases e with
  | base a =>
    unfold erV
    go_enter Tryz.func186, Tryz.ntmps186
    go_wp2
    go_ret
    exact ⟨rfl, (Below.refl _ _).alloc (Nat.le_refl _) _⟩
  | wrap d e =>
    unfold erV
    go_enter Tryz.func186, Tryz.ntmps186
    go_wp2
    go_ret
    exact ⟨rfl, (Below.refl _ _).alloc (Nat.le_refl _) _⟩

end Go.Proofs.YtgdfeicojgnoaaaGreatDoor

namespace Go.Proofs.YtgdfeicojgnoaaaGreatDoor
open Go.RowKit Go.Extern.Stop Go.Stop Go.Extern
set_option linter.unusedVariables false
set_option linter.unusedSimpArgs false

set_option maxRecDepth 8000 in
theorem cIsNil (b : Addr) (w : World) :
    Calls Tryz.prog 66 #[.nilIface, erV (.base b)] w fun e w' => e = .returned (.bool false) ∧ w' = w := by
  unfold erV
  have hn := run_eql_iface_nil_left (P := Tryz.prog) w 229 (.pointer (some b)) Tryz.underlying58
  go_enter Tryz.func66, Tryz.ntmps66
  go_wp2
  go_ret
  exact ⟨rfl, rfl⟩

set_option maxRecDepth 8000 in
theorem cIsSame (a : Addr) (w : World) :
    Calls Tryz.prog 66 #[erV (.base a), erV (.base a)] w fun e w' => e = .returned (.bool true) ∧ w' = w := by
  unfold erV
  obtain ⟨i, hi, hcmp⟩ := Option.map_eq_some_iff.1 x_comp
  obtain ⟨j, hj, hjs⟩ := Option.map_eq_some_iff.1 x_size
  have h8 := @run_callFunc_extern Tryz.prog 103 _ Extern.ReflectliteType.typeOf Tryz.func103 (by kernel_rfl) (by kernel_rfl) (by kernel_rfl) (by kernel_rfl)
  have h32 := @run_callFunc_extern Tryz.prog 198 _ (Extern.ReflectliteType.method fun t => do Extern.Rtype.noPackHeld "Comparable" t; pure (.bool (← typeInfo t).comparable)) Tryz.func198 (by kernel_rfl) (by kernel_rfl) (by kernel_rfl) (by kernel_rfl)
  have tT := x_typeOf
  have cT := x_comparable
  have mR := x_method
  generalize (Extern.ReflectliteType.method fun t => do Extern.Rtype.noPackHeld "Comparable" t; pure (.bool (← typeInfo t).comparable)) = M at h32 cT
  have heq := run_eql_iface_ptr_same (P := Tryz.prog) w a Tryz.underlying58 Tryz.underlying229 hi hcmp hj
  go_enter Tryz.func66, Tryz.ntmps66
  go_wp2
  refine wp_loop_rounds 1 ?_
  rw [rounds_succ]
  go_wp2
  go_ret
  exact ⟨rfl, rfl⟩

set_option maxRecDepth 8000 in
theorem cIsOther (a b : Addr) (ca cb : Array Value) (ta tb : TypeId) (w : World) (hne : a ≠ b) (ha : w.heap[a.block]? = some (.cells ca ta (0, 0))) (hb : w.heap[b.block]? = some (.cells cb tb (0, 0))) :
    Calls Tryz.prog 66 #[erV (.base a), erV (.base b)] w fun e w' => e = .returned (.bool false) ∧ w' = w := by
  unfold erV
  obtain ⟨i, hi, hcmp⟩ := Option.map_eq_some_iff.1 x_comp
  obtain ⟨j, hj, hjs⟩ := Option.map_eq_some_iff.1 x_size
  have h8 := @run_callFunc_extern Tryz.prog 103 _ Extern.ReflectliteType.typeOf Tryz.func103 (by kernel_rfl) (by kernel_rfl) (by kernel_rfl) (by kernel_rfl)
  have h32 := @run_callFunc_extern Tryz.prog 198 _ (Extern.ReflectliteType.method fun t => do Extern.Rtype.noPackHeld "Comparable" t; pure (.bool (← typeInfo t).comparable)) Tryz.func198 (by kernel_rfl) (by kernel_rfl) (by kernel_rfl) (by kernel_rfl)
  have tT := x_typeOf
  have cT := x_comparable
  have mR := x_method
  generalize (Extern.ReflectliteType.method fun t => do Extern.Rtype.noPackHeld "Comparable" t; pure (.bool (← typeInfo t).comparable)) = M at h32 cT
  have nE := x_noIsE
  have uE := x_noUnE
  have vE := x_noUsE
  have heq := run_eql_iface_ptr_other (P := Tryz.prog) w Tryz.underlying58 Tryz.underlying229 hi hcmp hj (by rw [hjs]; decide) hne ha hb
  go_enter Tryz.func66, Tryz.ntmps66
  go_wp2
  refine wp_loop_rounds 1 ?_
  rw [rounds_succ]
  go_wp2
  go_ret
  exact ⟨rfl, rfl⟩

end Go.Proofs.YtgdfeicojgnoaaaGreatDoor
