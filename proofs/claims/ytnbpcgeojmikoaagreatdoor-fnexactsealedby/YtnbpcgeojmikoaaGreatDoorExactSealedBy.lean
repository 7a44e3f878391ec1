/- FnExactSealedBy is proved for every slice of nodes, every number and every key: the law answers true, so SealedBy answers as the specification does and leaves its argument as it was (of nodes of more than 1048576 bytes together the law itself says true at once), where the library's table of tens is as the card lists it; no condition beside the row's own. -/
import Derived.Test.YtnbpcgeojmikoaaGreatDoorRows
import Derived.Test.YtnbpcgeojmikoaaGreatDoorM32
import Derived.Test.YtnbpcgeojmikoaaGreatDoorM31
import Derived.WalkKit
import Derived.ProofKit
import Derived.OpenShut
import Derived.ShutString
import Derived.ChangeOld
import Derived.Below
import Derived.Lay
import Derived.LaidOnce
import Derived.SevenTiedAt
import Derived.Test.YtnbpcgeojmikoaaGreatDoorCards
import Derived.Test.YtnbpcgeojmikoaaGreatDoorTie
import Derived.Carry
namespace Go.Proofs.YtnbpcgeojmikoaaGreatDoor.fnExactSealedBy
open Go.ChangeShapes Go.WideShapes Go.ChangeAt Go.RowKit
open Go.ChangeMaps (open_string shut_string)
set_option linter.unusedVariables false

theorem own : ownKnob Tryz.prog.godebug = none := by kernel_rfl
theorem laidOut : laidOutB Tryz.prog = true := by kernel_rfl

set_option maxHeartbeats 2000000 in
theorem walk (a0 : Option Addr) (cap0 : Nat) (l0 : List Tk) (a1 : Int) (n2 e2 d2 : Int) (w : World) (wr0 : TkRow w a0 l0) (wn0 : l0.length ≤ maxLen) (wz0 : TksSz maxLen l0) (wk0 : ∀ t ∈ l0, (Lit.int .i64 t.kind).wf = true) (w1 : (Lit.int .i64 a1).wf = true) (wn2 : (Lit.int .i64 n2).wf = true) (we2 : (Lit.int .i64 e2).wf = true) (wd2 : (Lit.int .i64 d2).wf = true) (hM : Laid w) :
    Calls Tryz.prog 4 #[.slice a0 l0.length cap0, .int .i64 a1, .agg #[.int .i64 n2, .int .i64 e2, .int .i64 d2]] w fun e w' => e = .returned (.bool true) ∧ Below w.heap.size w w' := by
  exact walkSealedBy a0 cap0 l0 a1 n2 e2 d2 w wr0 wn0 wz0 (bounds_i64 we2).2 hM

set_option maxRecDepth 100000 in
theorem lifted (os : Os) (started : os.Started) (H : Type) (enc : TypeId × Value → H) :
    ReturnsInHanded {} Tryz.checked os 4 .any (fun w args => (Rows.fnExactSealedBySpec.pre enc Tryz.prog Tryz.f4 [] false w args ∧ laidMetH Tryz.prog Rows.fnExactSealedByRow.laid w) ∧ sizedMet enc Tryz.prog Tryz.f4 (OpenSpec.ofChange Rows.fnExactSealedBySpec) false w args) (Rows.fnExactSealedBySpec.post enc Tryz.prog Tryz.f4 false true false false) := by
  refine returnsInHanded_of_change_and (C := Tryz.checked) (X := fun w _ => laidMetH Tryz.prog Rows.fnExactSealedByRow.laid w) (fun _ _ _ hh h => h.of_heap hh) own started (by kernel_rfl) Tryz.func4
    (ChangeSpec.witness_shaped (enc := enc) (C := Tryz.checked) (os := os) (X := fun w _ => laidMetH Tryz.prog Rows.fnExactSealedByRow.laid w) false (World.laidAll Tryz.prog os Rows.fnExactSealedByRow.laid) #[.slice none 0 0, .int .i64 0, .agg #[.int .i64 0, .int .i64 0, .int .i64 0]] 8 (World.laidAll_os _ _ _)
      (World.shaped_of_ZipB (by kernel_rfl) (by kernel_rfl)) (by kernel_rfl) (by kernel_rfl) (by kernel_rfl)
      (by rw [MakeChecks.laidMetH_plain _ _ _ (by kernel_rfl)]; exact laidMet_laidAll _ (by kernel_rfl) (by kernel_rfl))) ?_
  intro W base args ds gs before hval0 hW _ _ hL _
  have hval : ∀ (j : Nat) t v, Tryz.f4.params[j]? = some t → args[j]? = some v → Value.okWide Tryz.prog W .any base t v := hval0
  have hW' := hW
  obtain ⟨p, q, hA0, hV, rfl, hfz, hnd⟩ := hW
  have hA : DataW.TrodAll enc Tryz.prog W 0 (fun _ => true) true Tryz.f4.params.toList args.toList ds p := hA0
  rw [Tryz.params4] at hA hval
  obtain ⟨v0, vs0, d0, ds0, p0, q0, hargs, rfl, rfl, h0, r0⟩ := trodAll_cons hA
  obtain ⟨v1, vs1, d1, ds1, p1, q1, rfl, rfl, rfl, h1, r1⟩ := trodAll_cons r0
  obtain ⟨v2, vs2, d2, ds2, p2, q2, rfl, rfl, rfl, h2, r2⟩ := trodAll_cons r1
  obtain ⟨rfl, rfl, rfl⟩ := trodAll_nil r2
  obtain rfl : args = #[v0, v1, v2] := by cases args; simp_all
  obtain ⟨rfl, rfl⟩ := trodVars_none hV
  simp only [List.append_nil] at hW'
  have hlt : ∀ x ∈ p0 ++ p1 ++ p2, x.block < W.heap.size := fun x hx => by simpa using hW'.lt x (by simpa using hx)
  obtain ⟨a0, cap0, l0, rfl, wn0, wr0, wz0, wk0⟩ := Nd.rows_arg h0 (okWide_slice Tryz.underlying39 (hval 0 39 v0 rfl rfl)) (fun x hx => hlt x (by simp [hx]))
  obtain ⟨a1, rfl, _, _, w1⟩ := open_int Tryz.underlying2 (hval 1 2 v1 rfl rfl) h1
  obtain ⟨n2, e2, d2, rfl, wn2, we2, wd2⟩ := key_of (hval 2 40 v2 rfl rfl) h2
  clear hA0 hval0
  refine (walk a0 cap0 l0 a1 n2 e2 d2 W wr0 wn0 wz0 wk0 w1 wn2 we2 wd2 (laid_sealedBy hL)).mono fun e W' ⟨he, bel⟩ => ?_
  subst he
  exact ⟨_, rfl, _, _, _, [], _, [], hW', trodAll_mk1 (shut_bool Tryz.underlying4 _), (trodAll_cons_mk (Below.trod laidOut (by kernel_rfl) (of_decide_eq_true (by kernel_rfl)) h0 bel (fun x hx => hlt x (by simp [hx]))) (trodAll_cons_mk (Below.trod laidOut (by kernel_rfl) (of_decide_eq_true (by kernel_rfl)) h1 bel (fun x hx => hlt x (by simp [hx]))) (trodAll_cons_mk (Below.trod laidOut (by kernel_rfl) (of_decide_eq_true (by kernel_rfl)) h2 bel (fun x hx => hlt x (by simp [hx]))) trodAll_mk0))), rfl, bel.frame _, fun h => by cases h⟩

theorem over : Rows.fnExactSealedByRow.holds Tryz.pinned (OpenSpec.ofChange Rows.fnExactSealedBySpec) :=
  OpenClaim.holds_of_wide 4 Tryz.f4 rfl rfl rfl rfl rfl rfl rfl ⟨rfl, rfl, rfl, rfl, rfl⟩ rfl rfl rfl rfl rfl (by kernel_rfl) Tryz.func4 (by kernel_rfl)
    (of_decide_eq_true (by kernel_rfl)) (by unfold Func.isWrapper; first | (rw [if_pos (by decide +kernel)]; kernel_rfl) | (rw [if_neg (by decide +kernel)]; exact ⟨rfl, rfl⟩))
    (fun os started H enc _ => lifted os started H enc)

theorem proved : Rows.FnExactSealedByCardSaid :=
  Claim7.holds_tied_plain_at .later [] [.data, .data, .data] true (true, "ac3f3811855ed2c2c862079f8d63aa5f621affd63aab66138b8121410b7e1a81") true over (fun _ h => by cases h) (by kernel_rfl) (fun _ h => by cases h) fnExactSealedBy_row_tie rfl ⟨rfl, rfl⟩ (by kernel_rfl) rfl
    (fun f fn hf hfn => by
      obtain rfl : f = 4 := Option.some.inj ((show Tryz.prog.funcNamed Rows.fnExactSealedByRow.func = some 4 by kernel_rfl).symm.trans hf) |>.symm
      obtain rfl : fn = Tryz.f4 := (Option.some.inj (Tryz.func4.symm.trans hfn)).symm
      exact ⟨by kernel_rfl, fun j t ht => by
        rw [Tryz.params4] at ht
        have hm : t ∈ [39, 2, 40] := by simpa using Array.mem_of_getElem? ht
        have hall : ([39, 2, 40].all fun u => !Tryz.prog.wantsStandIn u) = true := by kernel_rfl
        exact (show Tryz.prog.wantsStandIn t = false by simpa using List.all_eq_true.1 hall t hm)⟩)
    (by kernel_rfl)
end Go.Proofs.YtnbpcgeojmikoaaGreatDoor.fnExactSealedBy

namespace Go.Proofs.YtnbpcgeojmikoaaGreatDoor
theorem fnExactSealedBy_holds : Rows.FnExactSealedByCardSaid := fnExactSealedBy.proved
#print axioms fnExactSealedBy_holds
end Go.Proofs.YtnbpcgeojmikoaaGreatDoor
