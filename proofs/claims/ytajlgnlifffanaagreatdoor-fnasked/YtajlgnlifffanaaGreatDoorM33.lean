/- errors.As at a concrete target: the outermost code is set. errors.Is of an error that wraps one of errors.New's make; the code that such a one is told by. The program's settled at an error that wraps a sentinel in a code. -/
import Derived.Test.YtajlgnlifffanaaGreatDoorM32
import Derived.Test.YtajlgnlifffanaaGreatDoorM11
import Derived.Below
namespace Go.Proofs.YtajlgnlifffanaaGreatDoor
open Go.RowKit Go.Extern.Stop Go.Stop Go.Extern
set_option linter.unusedVariables false
set_option linter.unusedSimpArgs false

theorem lt_of_cell {w : World} {b o : Nat} {v : Value} (h : w.cell? ⟨b, o, none⟩ = some v) : b < w.heap.size := by
  rcases Nat.lt_or_ge b w.heap.size with h' | h'
  · exact h'
  · simp [World.cell?, Array.getElem?_eq_none h'] at h

set_option maxRecDepth 8000 in
set_option maxHeartbeats 4000000 in
theorem cAsHit (c : Int) (x : TypeId) (v : Value) (d : Nat) (o0 o1 : Value) (w : World) (hg : w.cell? ⟨3, 0, none⟩ = some (.iface 189 (.agg #[.pointer (some ⟨5, 58, none⟩)]))) (h0 : w.cell? ⟨d, 0, none⟩ = some o0) (h1 : w.cell? ⟨d, 1, none⟩ = some o1) (k0 : w.frozen? ⟨d, 0, none⟩ = false) (k1 : w.frozen? ⟨d, 1, none⟩ = false) :
    Calls Tryz.prog 70 #[.iface 102 (.agg #[.int .i64 c, .iface x v]), .iface 106 (.pointer (some ⟨d, 0, none⟩))] w fun ev w' => ev = .returned (.bool true) ∧ ∃ W, Below w.heap.size w W ∧ w' = (W.setCell ⟨d, 0, none⟩ (.int .i64 c)).setCell ⟨d, 1, none⟩ (.iface x v) := by
  have e1 := @run_callFunc_extern Tryz.prog 108 _ (fun args => ReflectliteValue.unpack (args.getD 0 (.tuple #[]))) Tryz.func108 (by kernel_rfl) (by kernel_rfl) (by kernel_rfl) (by kernel_rfl)
  have e2 := @run_callFunc_extern Tryz.prog 109 _ (ReflectliteValue.methodAny (ReflectliteValue.valueError "reflectlite.Value.Type" 0) (fun t _ _ _ => ReflectliteType.toType t)) Tryz.func109 (by kernel_rfl) (by kernel_rfl) (by kernel_rfl) (by kernel_rfl)
  have e3 := @run_callFunc_extern Tryz.prog 110 _ (ReflectliteValue.method (ReflectliteValue.valueError "reflectlite.Value.IsNil" 0) ReflectliteValue.isNil) Tryz.func110 (by kernel_rfl) (by kernel_rfl) (by kernel_rfl) (by kernel_rfl)
  have e4 := @run_callFunc_extern Tryz.prog 181 _ (ReflectliteType.abiMethod fun t => do pure (.int .u8 (← Rtype.kind t))) Tryz.func181 (by kernel_rfl) (by kernel_rfl) (by kernel_rfl) (by kernel_rfl)
  have e5 := @run_callFunc_extern Tryz.prog 199 _ (ReflectliteType.method ReflectliteType.elem) Tryz.func199 (by kernel_rfl) (by kernel_rfl) (by kernel_rfl) (by kernel_rfl)
  have e6 := @run_callFunc_extern Tryz.prog 200 _ (ReflectliteType.relation "Implements" ReflectliteType.implements_) Tryz.func200 (by kernel_rfl) (by kernel_rfl) (by kernel_rfl) (by kernel_rfl)
  have e7 := @run_callFunc_extern Tryz.prog 103 _ ReflectliteType.typeOf Tryz.func103 (by kernel_rfl) (by kernel_rfl) (by kernel_rfl) (by kernel_rfl)
  have e8 := @run_callFunc_extern Tryz.prog 197 _ (ReflectliteType.relation "AssignableTo" ReflectliteType.assignableTo) Tryz.func197 (by kernel_rfl) (by kernel_rfl) (by kernel_rfl) (by kernel_rfl)
  have e9 := @run_callFunc_extern Tryz.prog 134 _ (ReflectliteValue.method (ReflectliteValue.valueError "reflectlite.Value.Elem" 0) ReflectliteValue.elem) Tryz.func134 (by kernel_rfl) (by kernel_rfl) (by kernel_rfl) (by kernel_rfl)
  have e10 := @run_callFunc_extern Tryz.prog 135 _ ReflectliteValue.set Tryz.func135 (by kernel_rfl) (by kernel_rfl) (by kernel_rfl) (by kernel_rfl)
  have tO := y_typeOfT
  have mA := y_methodAssignableTo
  have aT := y_assignable
  have vT := y_valueOfT
  have vP := y_valueOfP
  have tP := y_typeP
  have mK := y_methodKind
  have mE := y_methodElem
  have mI := y_methodImplements
  have kP := y_kindP
  have kT := y_kindT
  have eP := y_elemP
  have iT := y_implements
  obtain ⟨V, hV⟩ : ∃ V : Obj, V = .cells #[.pointer (some ⟨5, 106, none⟩), .pointer (some ⟨w.heap.size, 0, none⟩), .int .u64 150] 154 := ⟨_, rfl⟩
  have nP := y_isNilP ⟨w.heap.size, 0, none⟩ ⟨d, 0, none⟩ ((w.alloc (.cells #[.pointer (some ⟨d, 0, none⟩)] 106)).alloc (.cells #[.pointer (some ⟨5, 106, none⟩), .pointer (some ⟨w.heap.size, 0, none⟩), .int .u64 150] 154)) (by simp)
  have hlt : 3 < w.heap.size := lt_of_cell hg
  have hdl : d < w.heap.size := lt_of_cell h0
  have hg2 : ((w.alloc (.cells #[.pointer (some ⟨d, 0, none⟩)] 106)).alloc (.cells #[.pointer (some ⟨5, 106, none⟩), .pointer (some ⟨w.heap.size, 0, none⟩), .int .u64 150] 154)).cell? ⟨3, 0, none⟩ = some (.iface 189 (.agg #[.pointer (some ⟨5, 58, none⟩)])) := by
    rw [World.cell?_alloc_lt _ _ ⟨3, 0, none⟩ (by simp; omega), World.cell?_alloc_lt _ _ ⟨3, 0, none⟩ hlt]; exact hg
  have el := y_elemV ⟨w.heap.size, 0, none⟩ ⟨d, 0, none⟩ (((w.alloc (.cells #[.pointer (some ⟨d, 0, none⟩)] 106)).alloc (.cells #[.pointer (some ⟨5, 106, none⟩), .pointer (some ⟨w.heap.size, 0, none⟩), .int .u64 150] 154)).alloc (.cells #[.pointer (some ⟨5, 106, none⟩), .pointer (some ⟨w.heap.size, 0, none⟩), .int .u64 150] 154)) (by rw [World.cell?_alloc_lt _ _ ⟨w.heap.size, 0, none⟩ (by simp; omega)]; simp)
  have old : ∀ (o : Nat) (u : Value), w.cell? ⟨d, o, none⟩ = some u → ((((w.alloc (.cells #[.pointer (some ⟨d, 0, none⟩)] 106)).alloc (.cells #[.pointer (some ⟨5, 106, none⟩), .pointer (some ⟨w.heap.size, 0, none⟩), .int .u64 150] 154)).alloc (.cells #[.pointer (some ⟨5, 106, none⟩), .pointer (some ⟨w.heap.size, 0, none⟩), .int .u64 150] 154)).alloc (.cells #[.int .i64 c, .iface x v] 102)).cell? ⟨d, o, none⟩ = some u := fun o u h => by
    rw [World.cell?_alloc_lt _ _ ⟨d, o, none⟩ (by simp; omega), World.cell?_alloc_lt _ _ ⟨d, o, none⟩ (by simp; omega), World.cell?_alloc_lt _ _ ⟨d, o, none⟩ (by simp; omega), World.cell?_alloc_lt _ _ ⟨d, o, none⟩ hdl]; exact h
  have oldf : ∀ (o : Nat), w.frozen? ⟨d, o, none⟩ = false → ((((w.alloc (.cells #[.pointer (some ⟨d, 0, none⟩)] 106)).alloc (.cells #[.pointer (some ⟨5, 106, none⟩), .pointer (some ⟨w.heap.size, 0, none⟩), .int .u64 150] 154)).alloc (.cells #[.pointer (some ⟨5, 106, none⟩), .pointer (some ⟨w.heap.size, 0, none⟩), .int .u64 150] 154)).alloc (.cells #[.int .i64 c, .iface x v] 102)).frozen? ⟨d, o, none⟩ = false := fun o h => by
    rw [World.frozen?_alloc_old _ _ ⟨d, o, none⟩ (by simp; omega), World.frozen?_alloc_old _ _ ⟨d, o, none⟩ (by simp; omega), World.frozen?_alloc_old _ _ ⟨d, o, none⟩ (by simp; omega), World.frozen?_alloc_old _ _ ⟨d, o, none⟩ (Nat.ne_of_lt hdl)]; exact h
  have st := y_set d (w.heap.size + 1 + 1 + 1) c x v o0 o1 ((((w.alloc (.cells #[.pointer (some ⟨d, 0, none⟩)] 106)).alloc (.cells #[.pointer (some ⟨5, 106, none⟩), .pointer (some ⟨w.heap.size, 0, none⟩), .int .u64 150] 154)).alloc (.cells #[.pointer (some ⟨5, 106, none⟩), .pointer (some ⟨w.heap.size, 0, none⟩), .int .u64 150] 154)).alloc (.cells #[.int .i64 c, .iface x v] 102))
    (by rw [World.cell?_alloc_at _ _ _ _ (by simp)]; rfl)
    (by rw [World.cell?_alloc_at _ _ _ _ (by simp)]; rfl)
    (old 0 _ h0) (old 1 _ h1) (oldf 0 k0) (oldf 1 k1)
  clear old oldf h0 h1 k0 k1 hV hlt
  go_enter Tryz.func70, Tryz.ntmps70
  go_wp2
  refine wp_loop_rounds 1 ?_
  rw [rounds_succ]
  go_wp2
  go_ret
  refine ⟨rfl, _, ?_, rfl⟩
  exact ((((Below.refl w.heap.size w).alloc (Nat.le_refl _) _).alloc (by simp) _).alloc (by simp; omega) _).alloc (by simp; omega) _

end Go.Proofs.YtajlgnlifffanaaGreatDoor

namespace Go.Proofs.YtajlgnlifffanaaGreatDoor
open Go.RowKit Go.Extern.Stop Go.Stop Go.Extern
set_option linter.unusedVariables false
set_option linter.unusedSimpArgs false

theorem x_eqTypes (u v : Value) (w : World) : (binOp .eql 58 (.iface 102 u) (.iface 229 v)).run Tryz.prog w = .ok (.bool false) w := by
  have hi := Tryz.underlying58
  have h : ∀ d : Nat, (Op.equalIn (d + 1) 58 (.iface 102 u) (.iface 229 v)).run Tryz.prog w = .ok false w := fun d => by simp [Op.equalIn, run_underlying hi]
  simp only [binOp]
  simp [Op.equal, Op.maxDepth, h 9999]

set_option maxRecDepth 8000 in
set_option maxHeartbeats 4000000 in
theorem cIsWSame (c : Int) (a : Addr) (w : World) :
    Calls Tryz.prog 66 #[erV (.wrap c (.base a)), erV (.base a)] w fun e w' => e = .returned (.bool true) ∧ Below w.heap.size w w' := by
  have CU := hid (fun wx => cUnwrap c (.base a) wx)
  unfold erV at CU ⊢
  unfold erV
  obtain ⟨i, hi, hcmp⟩ := Option.map_eq_some_iff.1 x_comp
  obtain ⟨j, hj, hjs⟩ := Option.map_eq_some_iff.1 x_size
  have h8 := @run_callFunc_extern Tryz.prog 103 _ Extern.ReflectliteType.typeOf Tryz.func103 (by kernel_rfl) (by kernel_rfl) (by kernel_rfl) (by kernel_rfl)
  have h32 := @run_callFunc_extern Tryz.prog 198 _ (Extern.ReflectliteType.method fun t => do Extern.Rtype.noPackHeld "Comparable" t; pure (.bool (← typeInfo t).comparable)) Tryz.func198 (by kernel_rfl) (by kernel_rfl) (by kernel_rfl) (by kernel_rfl)
  have tT := x_typeOf
  have cT := x_comparable
  have mR := x_method
  generalize (Extern.ReflectliteType.method fun t => do Extern.Rtype.noPackHeld "Comparable" t; pure (.bool (← typeInfo t).comparable)) = M at h32 cT
  have qT := x_eqTypes
  have nT := x_noIsT
  have uT := x_hasUnT
  have mU := x_unwrap
  have heq := fun wx => run_eql_iface_ptr_same (P := Tryz.prog) wx a Tryz.underlying58 Tryz.underlying229 hi hcmp hj
  go_enter Tryz.func66, Tryz.ntmps66
  go_wp2
  refine wp_loop_rounds 2 ?_
  rw [rounds_succ]
  go_wp2_with fail
  refine (CU.out _).mono ?_
  rintro e w1 ⟨rfl, hb1⟩
  have HB1 := hid hb1
  clear hb1
  go_wp2_with fail
  rw [rounds_succ]
  go_wp2
  go_ret
  exact ⟨rfl, HB1.out⟩

set_option maxRecDepth 8000 in
set_option maxHeartbeats 4000000 in
theorem cIsWOther (c : Int) (a b : Addr) (ca cb : Array Value) (ta tb : TypeId) (w : World) (hne : a ≠ b) (ha : w.heap[a.block]? = some (.cells ca ta (0, 0))) (hb : w.heap[b.block]? = some (.cells cb tb (0, 0))) :
    Calls Tryz.prog 66 #[erV (.wrap c (.base a)), erV (.base b)] w fun e w' => e = .returned (.bool false) ∧ Below w.heap.size w w' := by
  have CU := hid (fun wx => cUnwrap c (.base a) wx)
  unfold erV at CU ⊢
  unfold erV
  obtain ⟨i, hi, hcmp⟩ := Option.map_eq_some_iff.1 x_comp
  obtain ⟨j, hj, hjs⟩ := Option.map_eq_some_iff.1 x_size
  have h8 := @run_callFunc_extern Tryz.prog 103 _ Extern.ReflectliteType.typeOf Tryz.func103 (by kernel_rfl) (by kernel_rfl) (by kernel_rfl) (by kernel_rfl)
  have h32 := @run_callFunc_extern Tryz.prog 198 _ (Extern.ReflectliteType.method fun t => do Extern.Rtype.noPackHeld "Comparable" t; pure (.bool (← typeInfo t).comparable)) Tryz.func198 (by kernel_rfl) (by kernel_rfl) (by kernel_rfl) (by kernel_rfl)
  have tT := x_typeOf
  have cT := x_comparable
  have mR := x_method
  generalize (Extern.ReflectliteType.method fun t => do Extern.Rtype.noPackHeld "Comparable" t; pure (.bool (← typeInfo t).comparable)) = M at h32 cT
  have qT := x_eqTypes
  have nT := x_noIsT
  have uT := x_hasUnT
  have mU := x_unwrap
  have nE := x_noIsE
  have uE := x_noUnE
  have vE := x_noUsE
  have HEQ := hid (fun wx (hx : Below w.heap.size w wx) => run_eql_iface_ptr_other (P := Tryz.prog) wx Tryz.underlying58 Tryz.underlying229 hi hcmp hj (by rw [hjs]; decide) hne ((hx.block _ (lt_of_heap ha)).trans ha) ((hx.block _ (lt_of_heap hb)).trans hb))
  go_enter Tryz.func66, Tryz.ntmps66
  go_wp2
  refine wp_loop_rounds 2 ?_
  rw [rounds_succ]
  go_wp2_with fail
  refine (CU.out _).mono ?_
  rintro e w1 ⟨rfl, hb1⟩
  have HB1 := hid hb1
  have heq := HEQ.out _ hb1
  clear hb1
  go_wp2_with fail
  rw [rounds_succ]
  go_wp2
  go_ret
  exact ⟨rfl, HB1.out⟩

theorem cNotSo (c : Int) (a : Addr) (w : World) (h : w.cell? ⟨1, 0, none⟩ = some (erV (.base a))) :
    Calls Tryz.prog 106 #[.int .i64 c] w fun e w' => e = .returned (erV (.wrap c (.base a))) ∧ w' = w := by
  unfold erV
  unfold erV at h ⊢
  go_enter Tryz.func106, Tryz.ntmps106
  go_wp2
  go_ret
  exact ⟨rfl, rfl⟩

theorem cCodeNil (w : World) :
    Calls Tryz.prog 31 #[.nilIface] w fun e w' => e = .returned (.int .i64 0) ∧ Below w.heap.size w w' := by
  have C := hid cAsNil
  have HB := hid ((Below.refl w.heap.size w).alloc (Nat.le_refl _) (.cells #[.int .i64 0, .nilIface] 102))
  go_enter Tryz.func31, Tryz.ntmps31
  go_wp2_with fail
  refine (C.out _ _).mono ?_
  rintro e w1 ⟨rfl, hw⟩
  obtain rfl := hw.symm
  go_wp2_with fail
  go_ret
  exact ⟨rfl, HB.out⟩

/-- The library's type of errors, where it lies. -/
def HanAt (w : World) : Prop := w.cell? ⟨3, 0, none⟩ = some (.iface 189 (.agg #[.pointer (some ⟨5, 58, none⟩)]))

theorem HanAt.below {w w' : World} (h : HanAt w) (hb : Below w.heap.size w w') : HanAt w' := (hb.cell (p := ⟨3, 0, none⟩) (lt_of_cell h)).trans h

set_option maxRecDepth 8000 in
theorem cCodeOf (c : Int) (a : Addr) (w : World) (hH : HanAt w) :
    Calls Tryz.prog 31 #[erV (.wrap c (.base a))] w fun e w' => e = .returned (.int .i64 c) ∧ Below w.heap.size w w' := by
  have HB := hid ((Below.refl w.heap.size w).alloc (Nat.le_refl _) (.cells #[.int .i64 0, .nilIface] 102))
  have M := hid (heap_alloc_new w (.cells #[.int .i64 0, .nilIface] 102))
  have C := hid (cAsHit c 229 (.pointer (some a)) w.heap.size (.int .i64 0) .nilIface (w.alloc (.cells #[.int .i64 0, .nilIface] 102)) (hH.below HB.out) (Lib.cell_of_heap M.out 0) (Lib.cell_of_heap M.out 1) (Lib.frozen_of_heap M.out 0) (Lib.frozen_of_heap M.out 1))
  unfold erV
  unfold erV
  go_enter Tryz.func31, Tryz.ntmps31
  go_wp2_with fail
  refine C.out.mono ?_
  rintro e w1 ⟨rfl, W, hW, rfl⟩
  have hM : W.heap[w.heap.size]? = some (.cells #[.int .i64 0, .nilIface] 102 (0, 0)) := (hW.block _ (lt_of_heap M.out)).trans M.out
  have c0 := Lib.cell_of_heap hM 0
  have c1 := Lib.cell_of_heap hM 1
  have HBW := hid ((HB.out.trans (hW.mono HB.out.size)))
  go_wp2_with fail
  go_ret
  exact ⟨rfl, (HBW.out.setCell (p := ⟨w.heap.size, 0, none⟩) (Nat.le_refl _) _).setCell (p := ⟨w.heap.size, 1, none⟩) (Nat.le_refl _) _⟩

end Go.Proofs.YtajlgnlifffanaaGreatDoor

namespace Go.Proofs.YtajlgnlifffanaaGreatDoor
open Go.RowKit
set_option linter.unusedVariables false
set_option linter.unusedSimpArgs false

/-- The three sentinels and the library's type of errors, and where they lie. -/
def SenA (a0 a1 a2 : Addr) (w : World) : Prop :=
  ((∃ t fr, w.heap[0]? = some (.cells #[erV (.base a0)] t fr)) ∧ (∃ t fr, w.heap[1]? = some (.cells #[erV (.base a1)] t fr)) ∧ ∃ t fr, w.heap[2]? = some (.cells #[erV (.base a2)] t fr)) ∧ (¬ a1 = a0 ∧ ¬ a2 = a0) ∧
    ((∃ c t, w.heap[a0.block]? = some (.cells c t (0, 0))) ∧ (∃ c t, w.heap[a1.block]? = some (.cells c t (0, 0))) ∧ ∃ c t, w.heap[a2.block]? = some (.cells c t (0, 0))) ∧ HanAt w

theorem SenA.below {a0 a1 a2 : Addr} {w w' : World} (h : SenA a0 a1 a2 w) (hb : Below w.heap.size w w') : SenA a0 a1 a2 w' := by
  obtain ⟨⟨⟨t, fr, h0⟩, ⟨s, fs, h1⟩, r, fq, h2⟩, hn, ⟨⟨c, u, k0⟩, ⟨d, v, k1⟩, e, x, k2⟩, hh⟩ := h
  exact ⟨⟨⟨t, fr, u_blk_below h0 hb⟩, ⟨s, fs, u_blk_below h1 hb⟩, r, fq, u_blk_below h2 hb⟩, hn, ⟨⟨c, u, u_blk_below k0 hb⟩, ⟨d, v, u_blk_below k1 hb⟩, e, x, u_blk_below k2 hb⟩, hh.below hb⟩

theorem SenA.cells {a0 a1 a2 : Addr} {w : World} (h : SenA a0 a1 a2 w) : w.cell? ⟨0, 0, none⟩ = some (erV (.base a0)) ∧ w.cell? ⟨1, 0, none⟩ = some (erV (.base a1)) ∧ w.cell? ⟨2, 0, none⟩ = some (erV (.base a2)) := by
  obtain ⟨⟨⟨t, fr, h0⟩, ⟨s, fs, h1⟩, r, fq, h2⟩, _⟩ := h
  exact ⟨by rw [cell_of_row _ _ _ _ _ _ h0]; rfl, by rw [cell_of_row _ _ _ _ _ _ h1]; rfl, by rw [cell_of_row _ _ _ _ _ _ h2]; rfl⟩

theorem is_other {a0 a1 a2 b : Addr} {w : World} (c : Int) (h : SenA a0 a1 a2 w) (hb : b = a1 ∨ b = a2) : Calls Tryz.prog 66 #[erV (.wrap c (.base b)), erV (.base a0)] w fun e w' => e = .returned (.bool false) ∧ Below w.heap.size w w' := by
  obtain ⟨_, ⟨n1, n2⟩, ⟨⟨c0, t0, k0⟩, ⟨c1, t1, k1⟩, c2, t2, k2⟩, _⟩ := h
  rcases hb with rfl | rfl
  · exact cIsWOther c b a0 c1 c0 t1 t0 w n1 k1 k0
  · exact cIsWOther c b a0 c2 c0 t2 t0 w n2 k2 k0

set_option maxRecDepth 8000 in
set_option maxHeartbeats 8000000 in
theorem cSetNil (x : ByteArray) (ah : Option Addr) (nh ch : Nat) (sk nw am : Int) (aa : Option Addr) (na ca : Nat) (rm : Int) (ar : Option Addr) (nr cr : Nat) (x2 : ByteArray) (ah2 : Option Addr) (nh2 ch2 : Nat) (sk2 nw2 am2 : Int) (aa2 : Option Addr) (na2 ca2 : Nat) (rm2 : Int) (ar2 : Option Addr) (nr2 cr2 : Nat) (w : World) :
    Calls Tryz.prog 27 #[.agg #[.string x, .slice ah nh ch, .int .i64 sk, .int .i64 nw, .int .i64 am, .slice aa na ca, .int .i64 rm, .slice ar nr cr], .agg #[.string x2, .slice ah2 nh2 ch2, .int .i64 sk2, .int .i64 nw2, .int .i64 am2, .slice aa2 na2 ca2, .int .i64 rm2, .slice ar2 nr2 cr2], .nilIface] w fun e w' => e = .returned (.agg #[.string x2, .slice ah2 nh2 ch2, .int .i64 sk2, .int .i64 nw2, .int .i64 am2, .slice aa2 na2 ca2, .int .i64 rm2, .slice ar2 nr2 cr2]) ∧ Below w.heap.size w w' := by
  obtain ⟨b1, b2, b3⟩ := u_heap3 w (.cells #[.string x, .slice ah nh ch, .int .i64 sk, .int .i64 nw, .int .i64 am, .slice aa na ca, .int .i64 rm, .slice ar nr cr] 29) (.cells #[.string x2, .slice ah2 nh2 ch2, .int .i64 sk2, .int .i64 nw2, .int .i64 am2, .slice aa2 na2 ca2, .int .i64 rm2, .slice ar2 nr2 cr2] 29) (.cells #[.string ⟨#[]⟩, .slice none 0 0, .int .i64 0, .int .i64 0, .int .i64 0, .slice none 0 0, .int .i64 0, .slice none 0 0] 29)
  have HB0 := hid ((((Below.refl w.heap.size w).alloc (Nat.le_refl _) (.cells #[.string x, .slice ah nh ch, .int .i64 sk, .int .i64 nw, .int .i64 am, .slice aa na ca, .int .i64 rm, .slice ar nr cr] 29)).alloc (by simp) (.cells #[.string x2, .slice ah2 nh2 ch2, .int .i64 sk2, .int .i64 nw2, .int .i64 am2, .slice aa2 na2 ca2, .int .i64 rm2, .slice ar2 nr2 cr2] 29)).alloc (by simp; omega) (.cells #[.string ⟨#[]⟩, .slice none 0 0, .int .i64 0, .int .i64 0, .int .i64 0, .slice none 0 0, .int .i64 0, .slice none 0 0] 29))
  obtain ⟨W0, hW0⟩ : ∃ W0, ((w.alloc (.cells #[.string x, .slice ah nh ch, .int .i64 sk, .int .i64 nw, .int .i64 am, .slice aa na ca, .int .i64 rm, .slice ar nr cr] 29)).alloc (.cells #[.string x2, .slice ah2 nh2 ch2, .int .i64 sk2, .int .i64 nw2, .int .i64 am2, .slice aa2 na2 ca2, .int .i64 rm2, .slice ar2 nr2 cr2] 29)).alloc (.cells #[.string ⟨#[]⟩, .slice none 0 0, .int .i64 0, .int .i64 0, .int .i64 0, .slice none 0 0, .int .i64 0, .slice none 0 0] 29) = W0 := ⟨_, rfl⟩
  rw [hW0] at b1 b2 b3 HB0
  obtain ⟨B, hB⟩ : ∃ B, w.heap.size = B := ⟨_, rfl⟩
  rw [hB] at b1 b2 b3
  have HM1 := hid b1
  have HM2 := hid b2
  have HM3 := hid b3
  clear b1 b2 b3
  obtain ⟨⟨j0, j1, j2, j3, j4, j5, j6, j7⟩, jf⟩ := g_box8f HM2.out
  clear jf
  obtain ⟨⟨k0, k1, k2, k3, k4, k5, k6, k7⟩, kf⟩ := g_box8f HM3.out
  have kf0 := kf 0
  have kf1 := kf 1
  have kf2 := kf 2
  have kf3 := kf 3
  have kf4 := kf 4
  have kf5 := kf 5
  have kf6 := kf 6
  have kf7 := kf 7
  clear kf
  go_enter Tryz.func27, Tryz.ntmps27
  go_wp2_with fail
  refine bodyPost_ret (v := .agg #[.string x2, .slice ah2 nh2 ch2, .int .i64 sk2, .int .i64 nw2, .int .i64 am2, .slice aa2 na2 ca2, .int .i64 rm2, .slice ar2 nr2 cr2]) (by simp [results, Tryz.results27, go_sem, k0, k1, k2, k3, k4, k5, k6, k7]) rfl ⟨rfl, ?_⟩
  iterate 8 refine Below.setCell ?_ (show w.heap.size ≤ B + 2 by omega) _
  exact HB0.out

set_option maxRecDepth 8000 in
set_option maxHeartbeats 8000000 in
theorem cSetBadW (x : ByteArray) (ah : Option Addr) (nh ch : Nat) (sk nw am : Int) (aa : Option Addr) (na ca : Nat) (rm : Int) (ar : Option Addr) (nr cr : Nat) (x2 : ByteArray) (ah2 : Option Addr) (nh2 ch2 : Nat) (sk2 nw2 am2 : Int) (aa2 : Option Addr) (na2 ca2 : Nat) (rm2 : Int) (ar2 : Option Addr) (nr2 cr2 : Nat) (c : Int) (a0 a1 a2 : Addr) (w : World) (hS : SenA a0 a1 a2 w) :
    Calls Tryz.prog 27 #[.agg #[.string x, .slice ah nh ch, .int .i64 sk, .int .i64 nw, .int .i64 am, .slice aa na ca, .int .i64 rm, .slice ar nr cr], .agg #[.string x2, .slice ah2 nh2 ch2, .int .i64 sk2, .int .i64 nw2, .int .i64 am2, .slice aa2 na2 ca2, .int .i64 rm2, .slice ar2 nr2 cr2], erV (.wrap c (.base a0))] w fun e w' => e = .returned (.agg #[.string ⟨#[]⟩, .slice none 0 0, .int .i64 0, .int .i64 0, .int .i64 0, .slice none 0 0, .int .i64 0, .slice none 0 0]) ∧ Below w.heap.size w w' := by
  obtain ⟨b1, b2, b3⟩ := u_heap3 w (.cells #[.string x, .slice ah nh ch, .int .i64 sk, .int .i64 nw, .int .i64 am, .slice aa na ca, .int .i64 rm, .slice ar nr cr] 29) (.cells #[.string x2, .slice ah2 nh2 ch2, .int .i64 sk2, .int .i64 nw2, .int .i64 am2, .slice aa2 na2 ca2, .int .i64 rm2, .slice ar2 nr2 cr2] 29) (.cells #[.string ⟨#[]⟩, .slice none 0 0, .int .i64 0, .int .i64 0, .int .i64 0, .slice none 0 0, .int .i64 0, .slice none 0 0] 29)
  have HB0 := hid ((((Below.refl w.heap.size w).alloc (Nat.le_refl _) (.cells #[.string x, .slice ah nh ch, .int .i64 sk, .int .i64 nw, .int .i64 am, .slice aa na ca, .int .i64 rm, .slice ar nr cr] 29)).alloc (by simp) (.cells #[.string x2, .slice ah2 nh2 ch2, .int .i64 sk2, .int .i64 nw2, .int .i64 am2, .slice aa2 na2 ca2, .int .i64 rm2, .slice ar2 nr2 cr2] 29)).alloc (by simp; omega) (.cells #[.string ⟨#[]⟩, .slice none 0 0, .int .i64 0, .int .i64 0, .int .i64 0, .slice none 0 0, .int .i64 0, .slice none 0 0] 29))
  obtain ⟨W0, hW0⟩ : ∃ W0, ((w.alloc (.cells #[.string x, .slice ah nh ch, .int .i64 sk, .int .i64 nw, .int .i64 am, .slice aa na ca, .int .i64 rm, .slice ar nr cr] 29)).alloc (.cells #[.string x2, .slice ah2 nh2 ch2, .int .i64 sk2, .int .i64 nw2, .int .i64 am2, .slice aa2 na2 ca2, .int .i64 rm2, .slice ar2 nr2 cr2] 29)).alloc (.cells #[.string ⟨#[]⟩, .slice none 0 0, .int .i64 0, .int .i64 0, .int .i64 0, .slice none 0 0, .int .i64 0, .slice none 0 0] 29) = W0 := ⟨_, rfl⟩
  rw [hW0] at b1 b2 b3 HB0
  obtain ⟨B, hB⟩ : ∃ B, w.heap.size = B := ⟨_, rfl⟩
  rw [hB] at b1 b2 b3
  have HM1 := hid b1
  have HM2 := hid b2
  have HM3 := hid b3
  clear b1 b2 b3
  have e0 := (hS.below HB0.out).cells.1
  have CI := hid (fun wx => cIsWSame c a0 wx)
  unfold erV at CI ⊢
  unfold erV at CI ⊢
  unfold erV at e0
  go_enter Tryz.func27, Tryz.ntmps27
  go_wp2_with fail
  refine (CI.out _).mono ?_
  rintro e w1 ⟨rfl, hb1⟩
  have HBx := hid (bb HB0.out hb1)
  have HMx := hid (u_blk_below HM3.out hb1)
  clear hb1
  obtain ⟨⟨k0, k1, k2, k3, k4, k5, k6, k7⟩, kf⟩ := g_box8f HMx.out
  have kf0 := kf 0
  have kf1 := kf 1
  have kf2 := kf 2
  have kf3 := kf 3
  have kf4 := kf 4
  have kf5 := kf 5
  have kf6 := kf 6
  have kf7 := kf 7
  clear kf
  go_wp2_with fail
  refine bodyPost_ret (v := .agg #[.string ⟨#[]⟩, .slice none 0 0, .int .i64 0, .int .i64 0, .int .i64 0, .slice none 0 0, .int .i64 0, .slice none 0 0]) (by simp [results, Tryz.results27, go_sem, k0, k1, k2, k3, k4, k5, k6, k7]) rfl ⟨rfl, ?_⟩
  iterate 8 refine Below.setCell ?_ (show w.heap.size ≤ B + 2 by omega) _
  exact HBx.out

set_option maxRecDepth 8000 in
set_option maxHeartbeats 8000000 in
theorem cSetOldW (g : Gt) (ah : Option Addr) (ch : Nat) (aa : Option Addr) (ca : Nat) (ar : Option Addr) (cr : Nat) (x2 : ByteArray) (ah2 : Option Addr) (nh2 ch2 : Nat) (sk2 nw2 am2 : Int) (aa2 : Option Addr) (na2 ca2 : Nat) (rm2 : Int) (ar2 : Option Addr) (nr2 cr2 : Nat) (c : Int) (a0 a1 a2 b : Addr) (w : World) (hS : SenA a0 a1 a2 w) (hb : b = a1 ∨ b = a2) (hR : GtRow w g ah aa ar) (hz : GtSz 1048576 g) (hn1 : g.hands.length ≤ 100000) (hn2 : g.ask.rows.length ≤ 100000) (hn3 : g.hrd.rows.length ≤ 100000) :
    Calls Tryz.prog 27 #[gtV g ah ch aa ca ar cr, .agg #[.string x2, .slice ah2 nh2 ch2, .int .i64 sk2, .int .i64 nw2, .int .i64 am2, .slice aa2 na2 ca2, .int .i64 rm2, .slice ar2 nr2 cr2], erV (.wrap c (.base b))] w fun e w' => ∃ ah' ch' aa' ca' ar' cr', e = .returned (gtV g ah' ch' aa' ca' ar' cr') ∧ GtOwn w' w.heap.size g ah' aa' ar' ∧ Below w.heap.size w w' := by
  have CC := hid (fun wx (h : Below w.heap.size w wx) => cCopiedGate g ah ch aa ca ar cr wx (hR.below h) hz hn1 hn2 hn3)
  have HOWN := hid (fun (wx : World) (Bx : Nat) (a b c : Option Addr) (h : GtOwn wx Bx g a b c) (R : Nat) (hR : R < Bx) => own_set8 h hR)
  clear hR hz hn1 hn2 hn3
  unfold gtV at CC ⊢
  generalize g.name = x at *
  generalize g.skew = sk at *
  generalize g.now = nw at *
  generalize g.ask.most = am at *
  generalize g.hrd.most = rm at *
  generalize g.hands.length = nh at *
  generalize g.ask.rows.length = na at *
  generalize g.hrd.rows.length = nr at *
  obtain ⟨b1, b2, b3⟩ := u_heap3 w (.cells #[.string x, .slice ah nh ch, .int .i64 sk, .int .i64 nw, .int .i64 am, .slice aa na ca, .int .i64 rm, .slice ar nr cr] 29) (.cells #[.string x2, .slice ah2 nh2 ch2, .int .i64 sk2, .int .i64 nw2, .int .i64 am2, .slice aa2 na2 ca2, .int .i64 rm2, .slice ar2 nr2 cr2] 29) (.cells #[.string ⟨#[]⟩, .slice none 0 0, .int .i64 0, .int .i64 0, .int .i64 0, .slice none 0 0, .int .i64 0, .slice none 0 0] 29)
  have HB0 := hid ((((Below.refl w.heap.size w).alloc (Nat.le_refl _) (.cells #[.string x, .slice ah nh ch, .int .i64 sk, .int .i64 nw, .int .i64 am, .slice aa na ca, .int .i64 rm, .slice ar nr cr] 29)).alloc (by simp) (.cells #[.string x2, .slice ah2 nh2 ch2, .int .i64 sk2, .int .i64 nw2, .int .i64 am2, .slice aa2 na2 ca2, .int .i64 rm2, .slice ar2 nr2 cr2] 29)).alloc (by simp; omega) (.cells #[.string ⟨#[]⟩, .slice none 0 0, .int .i64 0, .int .i64 0, .int .i64 0, .slice none 0 0, .int .i64 0, .slice none 0 0] 29))
  obtain ⟨W0, hW0⟩ : ∃ W0, ((w.alloc (.cells #[.string x, .slice ah nh ch, .int .i64 sk, .int .i64 nw, .int .i64 am, .slice aa na ca, .int .i64 rm, .slice ar nr cr] 29)).alloc (.cells #[.string x2, .slice ah2 nh2 ch2, .int .i64 sk2, .int .i64 nw2, .int .i64 am2, .slice aa2 na2 ca2, .int .i64 rm2, .slice ar2 nr2 cr2] 29)).alloc (.cells #[.string ⟨#[]⟩, .slice none 0 0, .int .i64 0, .int .i64 0, .int .i64 0, .slice none 0 0, .int .i64 0, .slice none 0 0] 29) = W0 := ⟨_, rfl⟩
  rw [hW0] at b1 b2 b3 HB0
  obtain ⟨B, hB⟩ : ∃ B, w.heap.size = B := ⟨_, rfl⟩
  rw [hB] at b1 b2 b3
  have HM1 := hid b1
  have HM2 := hid b2
  have HM3 := hid b3
  clear b1 b2 b3
  obtain ⟨⟨f0, f1, f2, f3, f4, f5, f6, f7⟩, ff⟩ := g_box8f HM1.out
  clear ff
  have HSx := hid (hS.below HB0.out)
  have e0 := HSx.out.cells.1
  have CI := hid (fun wx (h : SenA a0 a1 a2 wx) => is_other c h hb)
  have HLT := hid (show B + 2 < W0.heap.size from lt_of_heap HM3.out)
  unfold erV at CI ⊢
  unfold erV at CI ⊢
  unfold erV at e0
  go_enter Tryz.func27, Tryz.ntmps27
  go_wp2_with fail
  refine (CI.out _ HSx.out).mono ?_
  rintro e w1 ⟨rfl, hb1⟩
  have HBx := hid (bb HB0.out hb1)
  have HMx := hid (u_blk_below HM3.out hb1)
  have HM1x := hid (u_blk_below HM1.out hb1)
  clear hb1 f0 f1 f2 f3 f4 f5 f6 f7 e0
  obtain ⟨⟨f0, f1, f2, f3, f4, f5, f6, f7⟩, ff⟩ := g_box8f HM1x.out
  clear ff
  have HLTx := hid (show B + 2 < w1.heap.size from lt_of_heap HMx.out)
  go_wp2_with fail
  refine (CC.out _ HBx.out).mono ?_
  rintro e w4 ⟨a1', c1, a2, c2, a3, c3, rfl, ho, hb4⟩
  have HO := hid ho
  have HB4 := hid (bb HBx.out hb4)
  have HZ := hid (u_blk_below HMx.out hb4)
  clear ho hb4 f0 f1 f2 f3 f4 f5 f6 f7
  obtain ⟨⟨k0, k1, k2, k3, k4, k5, k6, k7⟩, kf⟩ := g_box8f HZ.out
  have kf0 := kf 0
  have kf1 := kf 1
  have kf2 := kf 2
  have kf3 := kf 3
  have kf4 := kf 4
  have kf5 := kf 5
  have kf6 := kf 6
  have kf7 := kf 7
  clear kf
  go_wp2_with fail
  refine bodyPost_ret (v := .agg #[.string x, .slice a1' nh c1, .int .i64 sk, .int .i64 nw, .int .i64 am, .slice a2 na c2, .int .i64 rm, .slice a3 nr c3]) (by simp [results, Tryz.results27, go_sem, k0, k1, k2, k3, k4, k5, k6, k7]) rfl ⟨a1', c1, a2, c2, a3, c3, rfl, ?_, ?_⟩
  · refine (HOWN.out _ _ _ _ _ HO.out (B + 2) HLTx.out _ _ _ _ _ _ _ _).mono ?_
    have := HLTx.out
    omega
  · iterate 8 refine Below.setCell ?_ (show w.heap.size ≤ B + 2 by omega) _
    exact HB4.out

end Go.Proofs.YtajlgnlifffanaaGreatDoor
