/- From the row of FnAsked to what the walks of Asks ask: three sentinels and the library's type of errors. -/
import Derived.Test.YtgdfeicojgnoaaaGreatDoorRows
import Derived.Test.YtgdfeicojgnoaaaGreatDoorM35
import Derived.Stop.LaidTwo
import Derived.MakeChecks
import Derived.LaidSub
import Derived.LaidHandle
import Derived.Lay
import Derived.OpenShut
namespace Go.Proofs.YtgdfeicojgnoaaaGreatDoor
open Go.RowKit
set_option linter.unusedVariables false

/-- The sentinels and the type lie somewhere. -/
def SenWA (w : World) : Prop := ∃ a0 a1 a2, SenA a0 a1 a2 w

theorem senA_heap {P : Program} {w : World} {name : String} {g : Nat} {cs : Array Value} (hg : P.globalNamed name = some g) (h : w.var? P name = some cs) : ∃ t fr, w.heap[g]? = some (.cells cs t fr) := by
  unfold World.var? at h
  rw [hg] at h
  simp only [Option.bind_some] at h
  split at h
  · rename_i c t fr hh
    cases h
    exact ⟨t, fr, hh⟩
  · cases h

theorem ga_star : "*" ++ "errors.errorString" = "*errors.errorString" := by decide

theorem ga_row (u : TypeId) (h : Tryz.prog.typeName? 3 u = some "*errors.errorString") : u = 229 :=
  typeName_ptr_named (nm := "errors.errorString") (by rw [ga_star]; kernel_rfl) (by kernel_rfl) (by decide) u (by rw [ga_star]; exact h)

/-- Two sentinels, by their names. -/
theorem two_of {n0 n1 : String} {g0 g1 : Nat} {t0 t1 : List UInt8} {w : World} (h : laidMet Tryz.prog [(n0, .iface "*errors.errorString" (.ptr (.agg [.lit (.string t0)]))), (n1, .iface "*errors.errorString" (.ptr (.agg [.lit (.string t1)])))] w)
    (hg0 : Tryz.prog.globalNamed n0 = some g0) (ht0 : (Tryz.prog.globals[g0]?).map (·.type) = some 58) (hg1 : Tryz.prog.globalNamed n1 = some g1) (ht1 : (Tryz.prog.globals[g1]?).map (·.type) = some 58) :
    ∃ a0 a1 : Addr, w.var? Tryz.prog n0 = some #[erV (.base a0)] ∧ w.var? Tryz.prog n1 = some #[erV (.base a1)] ∧ a0 ≠ a1 ∧ (∃ c t, w.heap[a0.block]? = some (.cells c t (0, 0))) ∧ ∃ c t, w.heap[a1.block]? = some (.cells c t (0, 0)) := by
  obtain ⟨a0, a1, s0, s1, c0, c1, t0, t1, hv0, hv1, _, _, _, _, _, _, hne, hb0, hb1⟩ := laid_sentinels2 (tp := 229) (te := 249) (ts := 9) h hg0 ht0 hg1 ht1 Tryz.underlying58 ga_row Tryz.underlying229 Tryz.underlying249 rfl rfl Tryz.underlying9 (by kernel_rfl) (by kernel_rfl)
  exact ⟨a0, a1, hv0, hv1, hne, ⟨c0, t0, hb0⟩, c1, t1, hb1⟩

theorem han_rt : (Tryz.prog.cutTypes.find? (·.1 == "internal/reflectlite.rtype")).map (·.2) = some 189 := by kernel_rfl
theorem han_row : ((List.range 261).filter fun t => Tryz.prog.rowNamed t [101, 114, 114, 111, 114]) = [58] := by kernel_rfl
theorem han_size : Tryz.prog.types.size = 261 := by kernel_rfl
theorem han_name : Tryz.prog.globalNamed "errors.errorType" = some 3 := by kernel_rfl

/-- The library's type of errors. -/
theorem han_of {w : World} (h : laidMetH Tryz.prog [("errors.errorType", .iface "internal/reflectlite.rtype" (.agg [.ptr (.lit (.string [101, 114, 114, 111, 114]))]))] w) : HanAt w := by
  have h' : laidMet Tryz.prog [] w ∧ handlesMet Tryz.prog [("errors.errorType", .iface "internal/reflectlite.rtype" (.agg [.ptr (.lit (.string [101, 114, 114, 111, 114]))]))] w := h
  obtain ⟨name, u, ty, e1, e2, e3, e4, e5⟩ := h'.2 _ (List.mem_singleton.2 rfl)
  have en : name = [101, 114, 114, 111, 114] := (Option.some.inj e1).symm
  subst en
  obtain rfl := Option.some.inj (han_rt.symm.trans e2)
  have hm : ty ∈ (List.range 261).filter fun t => Tryz.prog.rowNamed t [101, 114, 114, 111, 114] := List.mem_filter.2 ⟨List.mem_range.2 (by rw [← han_size]; exact e3), e4⟩
  rw [han_row] at hm
  obtain rfl := List.mem_singleton.1 hm
  have hh : typeHandle Tryz.prog 58 = .pointer (some ⟨5, 58, none⟩) := by kernel_rfl
  rw [hh] at e5
  unfold HanAt
  simpa using World.var?_cell han_name e5 0

theorem senA_of {t0 t1 t2 : List UInt8} {w : World}
    (h0 : laidMetH Tryz.prog [("errors.errorType", .iface "internal/reflectlite.rtype" (.agg [.ptr (.lit (.string [101, 114, 114, 111, 114]))]))] w)
    (h1 : laidMet Tryz.prog [("loop.example/g00379/impl.errNotRight", .iface "*errors.errorString" (.ptr (.agg [.lit (.string t0)]))), ("loop.example/g00379/impl.errNotSo", .iface "*errors.errorString" (.ptr (.agg [.lit (.string t1)])))] w)
    (h2 : laidMet Tryz.prog [("loop.example/g00379/impl.errNotRight", .iface "*errors.errorString" (.ptr (.agg [.lit (.string t0)]))), ("loop.example/g00379/impl.errThere", .iface "*errors.errorString" (.ptr (.agg [.lit (.string t2)])))] w) : SenWA w := by
  obtain ⟨a0, a1, v0, v1, n1, k0, k1⟩ := two_of (g0 := 0) (g1 := 1) h1 (by kernel_rfl) (by kernel_rfl) (by kernel_rfl) (by kernel_rfl)
  obtain ⟨b0, a2, u0, v2, n2, _, k2⟩ := two_of (g0 := 0) (g1 := 2) h2 (by kernel_rfl) (by kernel_rfl) (by kernel_rfl) (by kernel_rfl)
  have e : a0 = b0 := by
    have := v0.symm.trans u0
    have h := congrArg Array.toList (Option.some.inj this)
    have h3 := (List.cons.inj h).1
    unfold erV at h3
    injection h3 with _ h4
    injection h4 with h5
    exact Option.some.inj h5
  subst e
  exact ⟨a0, a1, a2, ⟨senA_heap (by kernel_rfl) v0, senA_heap (by kernel_rfl) v1, senA_heap (by kernel_rfl) v2⟩, ⟨fun e => n1 e.symm, fun e => n2 e.symm⟩, ⟨k0, k1, k2⟩, han_of h0⟩

/-- The listed variables but the type. -/
def plainA : List (String × DataW Unit) := [("loop.example/g00379/impl.errNotRight", Rows.laid_loop_example_g00379_impl_errNotRight), ("loop.example/g00379/impl.errThere", Rows.laid_loop_example_g00379_impl_errThere), ("loop.example/g00379/impl.errNotSo", Rows.laid_loop_example_g00379_impl_errNotSo)]

def laidA : List (String × DataW Unit) := ("errors.errorType", Rows.laid_errors_errorType) :: plainA

/-- A world in which the type is laid. -/
noncomputable def hanWorld0 (os : Os) : World :=
  let w0 := World.holding Tryz.prog os ⟨#[], #[], []⟩
  { w0 with heap := w0.heap.modify 3 fun
      | .cells _ t frozen => .cells #[.iface 189 (.agg #[.pointer (some ⟨5, 58, none⟩)])] t frozen
      | o => o }

/-- .. and the sentinels. -/
noncomputable def hanWorldA (os : Os) : World := (hanWorld0 os).layVars Tryz.prog plainA

theorem hanWorldA_os (os : Os) : (hanWorldA os).os = os := World.layVars_os _ _ _

theorem plainA_met (os : Os) : laidMet Tryz.prog plainA (hanWorldA os) := by
  have e1 : (plainA.filter fun x => (plainA.map (·.1)).contains x.1) = plainA := List.filter_eq_self.2 fun x hx => List.contains_iff_mem.2 (List.mem_map.2 ⟨x, hx, rfl⟩)
  have e2 : (plainA.filter fun x => !(plainA.map (·.1)).contains x.1) = [] := List.filter_eq_nil_iff.2 fun x hx => by rw [List.contains_iff_mem.2 (List.mem_map.2 ⟨x, hx, rfl⟩)]; simp
  exact laidMet_layVars (w0 := hanWorld0 os) (plainA.map (·.1)) [] (by rw [e1]; rfl) (by rw [e1]; kernel_rfl) (by rw [e1]; kernel_rfl) (by rw [e2]; exact LaidIn.none)

theorem laidA_met (os : Os) (args : Array Value) : laidMetH Tryz.prog laidA ((hanWorldA os).forCall (fun _ _ => 0) ⟨#[], args, []⟩).memory := by
  refine laidMetH_of_parts ?_ (by kernel_rfl)
  have e : (laidA.filter fun x => x.2.handleName?.isNone) = plainA := by kernel_rfl
  rw [e]
  exact (plainA_met os).of_heap (by simp [World.memory, World.forCall, Input.heap])

theorem vars3 {H : Type} {enc : TypeId × Value → H} {P : Program} {w : World} {spare : Nat → Bool} {n0 n1 n2 : String} {gs : List (DataW H)} {ps : List MemPlace} (h : DataW.TrodVars enc P w spare [n0, n1, n2] gs ps) : ∃ d0 d1 d2, gs = [d0, d1, d2] := by
  cases gs with
  | nil => simp [DataW.TrodVars] at h
  | cons d ds =>
    obtain ⟨_, _, _, _, _, q, _, _, _, _, hs, _⟩ := h
    obtain ⟨_, _, _, _, e0, _, _, _, _, _, e1, _, rfl, _⟩ := trodVars_two hs
    exact ⟨_, _, _, rfl⟩

theorem senA_laid {w : World} (h : laidMetH Tryz.prog laidA w) : SenWA w := by
  have h0 := h.filter (fun x => x.1 == "errors.errorType")
  have h1 := h.filter (fun x => x.1 == "loop.example/g00379/impl.errNotRight" || x.1 == "loop.example/g00379/impl.errNotSo")
  have h2 := h.filter (fun x => x.1 == "loop.example/g00379/impl.errNotRight" || x.1 == "loop.example/g00379/impl.errThere")
  rw [show laidA.filter (fun x => x.1 == "errors.errorType") = [("errors.errorType", Rows.laid_errors_errorType)] by kernel_rfl] at h0
  rw [show laidA.filter (fun x => x.1 == "loop.example/g00379/impl.errNotRight" || x.1 == "loop.example/g00379/impl.errNotSo") = [("loop.example/g00379/impl.errNotRight", Rows.laid_loop_example_g00379_impl_errNotRight), ("loop.example/g00379/impl.errNotSo", Rows.laid_loop_example_g00379_impl_errNotSo)] by kernel_rfl, MakeChecks.laidMetH_plain _ _ _ (by kernel_rfl)] at h1
  rw [show laidA.filter (fun x => x.1 == "loop.example/g00379/impl.errNotRight" || x.1 == "loop.example/g00379/impl.errThere") = [("loop.example/g00379/impl.errNotRight", Rows.laid_loop_example_g00379_impl_errNotRight), ("loop.example/g00379/impl.errThere", Rows.laid_loop_example_g00379_impl_errThere)] by kernel_rfl, MakeChecks.laidMetH_plain _ _ _ (by kernel_rfl)] at h2
  exact senA_of h0 h1 h2

end Go.Proofs.YtgdfeicojgnoaaaGreatDoor
