/- FnExactClash is proved for every slice of strings, a nil one too: the law answers true, so Clash answers at every list whose length and bytes are together at most 1048576 as the specification does, and leaves the list as it was (at a longer one the law itself says true at once); the card ties the listed variables to the program's text; no condition beside the row's own. -/
import Derived.Test.YtidkbpcceoocaaaDoorRows
import Derived.Test.YtidkbpcceoocaaaDoorHClash
import Derived.Test.YtidkbpcceoocaaaDoorHArg
import Derived.Test.YtidkbpcceoocaaaDoorHOpen
import Derived.Test.YtidkbpcceoocaaaDoorHTie
import Derived.WalkKit
import Derived.ProofKit
import Derived.OpenShut
import Derived.ShutString
import Derived.ChangeOld
import Derived.Below
import Derived.Lay
import Derived.LaidOnce
import Derived.SevenTiedAt
import Derived.Test.YtidkbpcceoocaaaDoorCards
import Derived.Test.YtidkbpcceoocaaaDoorTie
namespace Go.Proofs.YtidkbpcceoocaaaDoor.fnExactClash
open Go.ChangeShapes Go.WideShapes Go.ChangeAt Go.RowKit
open Go.ChangeMaps (open_string shut_string)
set_option linter.unusedVariables false

theorem own : ownKnob Tryd.prog.godebug = none := by kernel_rfl
theorem laidOut : laidOutB Tryd.prog = true := by kernel_rfl

def IsRow (k : IntKind) (w : World) (a : Option Addr) (len cap : Nat) (zs : List Int) : Prop :=
  (a = none ∧ len = 0 ∧ cap = 0 ∧ zs = []) ∨
  ∃ x, a = some x ∧ len ≤ cap ∧ cap ≤ maxLen ∧ zs.length = cap ∧ (∀ i, i < zs.length → w.cell? (x.add i) = some (.int k (zs.getD i 0))) ∧ ∀ n ∈ zs, (Lit.int k n).wf = true

theorem walk (a0 : Option Addr) (cap0 : Nat) (ss : List ByteArray) (w : World) (w0 : StrAt w a0 ss) (wn : ss.length ≤ maxLen) (wz : ∀ s ∈ ss, s.size ≤ maxLen) (hM : Laid w) :
    Calls Tryd.prog 4 #[.slice a0 ss.length cap0] w fun e w' => e = .returned (.bool true) ∧ Below w.heap.size w w' := by
  have C0 := cSz a0 cap0 ss w w0 wz wn
  have HM : Hid (Laid w) := hM
  have HS : Hid (StrAt w a0 ss) := w0
  clear hM w0 wz wn
  go_enter Tryd.func4, Tryd.ntmps4
  go_wp2_with fail
  refine C0.mono ?_
  rintro e w1 ⟨r, rfl, hr, rfl⟩
  clear C0
  by_cases h0 : r < 0
  · clear hr
    go_wp2_with fail
    go_ret
    exact ⟨rfl, Below.refl _ _⟩
  · obtain ⟨wn, wz⟩ := hr (by omega)
    have CT := fun W h => cTo a0 cap0 ss W h wn
    have CS := fun g cp W h => cClashS (some ⟨g, 0, none⟩) cp ss W h wz wn
    have CI := fun g cp W h => cClashI (some ⟨g, 0, none⟩) cp ss W h wz wn
    have CE := fun g g2 cp cp2 W h h2 => cEqS (some ⟨g, 0, none⟩) (some ⟨g2, 0, none⟩) cp cp2 ss W h h2 wn
    generalize clB ss = X at CS CI
    have HN : Hid (ss.length ≤ 1048576) := wn
    clear wn wz hr
    obtain ⟨n, hn⟩ : ∃ n, ss.length = n := ⟨_, rfl⟩
    rw [hn] at CT CS CI CE ⊢
    clear hn
    go_wp2_with fail
    refine (CT _ HS.out).mono ?_
    rintro e w2 ⟨g1, rfl, s1, b1⟩
    go_wp2_with fail
    refine (CS _ _ _ s1).mono ?_
    rintro e w3 ⟨rfl, b2⟩
    have b12 := b1.trans (b2.mono b1.size)
    clear b1 b2 s1
    go_wp2_with fail
    refine (CT _ (HS.out.below b12)).mono ?_
    rintro e w4 ⟨g2, rfl, s2, b3⟩
    have b13 := b12.trans (b3.mono b12.size)
    clear b12 b3
    go_wp2_with fail
    refine (CI _ _ _ s2 (HM.out.below b13)).mono ?_
    rintro e w5 ⟨rfl, b4⟩
    have s3 := s2.below b4
    have b14 := b13.trans (b4.mono b13.size)
    clear b13 b4 s2
    go_wp2_with fail
    refine (CT _ (HS.out.below b14)).mono ?_
    rintro e w6 ⟨g3, rfl, s4, b5⟩
    have s5 := s3.below b5
    have b15 := b14.trans (b5.mono b14.size)
    clear b14 b5 s3
    go_wp2_with fail
    refine (CE _ _ _ _ _ s5 s4).mono ?_
    rintro e w7 ⟨rfl, b6⟩
    go_wp2_with fail
    go_ret
    exact ⟨rfl, b15.trans (b6.mono b15.size)⟩

set_option maxRecDepth 100000 in
theorem lifted (os : Os) (started : os.Started) (H : Type) (enc : TypeId × Value → H) :
    ReturnsInHanded {} Tryd.checked os 4 .any (fun w args => (Rows.fnExactClashSpec.pre enc Tryd.prog Tryd.f4 [] false w args ∧ laidMetH Tryd.prog Rows.fnExactClashRow.laid w) ∧ sizedMet enc Tryd.prog Tryd.f4 (OpenSpec.ofChange Rows.fnExactClashSpec) false w args) (Rows.fnExactClashSpec.post enc Tryd.prog Tryd.f4 false true false false) := by
  refine returnsInHanded_of_change_and (C := Tryd.checked) (X := fun w _ => laidMetH Tryd.prog Rows.fnExactClashRow.laid w) (fun _ _ _ hh h => h.of_heap hh) own started (by kernel_rfl) Tryd.func4
    (ChangeSpec.witness_shaped (enc := enc) (C := Tryd.checked) (os := os) (X := fun w _ => laidMetH Tryd.prog Rows.fnExactClashRow.laid w) false (World.laidAll Tryd.prog os Rows.fnExactClashRow.laid) #[.slice none 0 0] 8 (World.laidAll_os _ _ _)
      (World.shaped_of_ZipB (by kernel_rfl) (by kernel_rfl)) (by kernel_rfl) (by kernel_rfl) (by kernel_rfl)
      (by rw [MakeChecks.laidMetH_plain _ _ _ (by kernel_rfl)]; exact laidMet_laidAll _ (by kernel_rfl) (by kernel_rfl))) ?_
  intro W base args ds gs before hval0 hW _ _ hL _
  have hval : ∀ (j : Nat) t v, Tryd.f4.params[j]? = some t → args[j]? = some v → Value.okWide Tryd.prog W .any base t v := hval0
  have hW' := hW
  obtain ⟨p, q, hA0, hV, rfl, hfz, hnd⟩ := hW
  have hA : DataW.TrodAll enc Tryd.prog W 0 (fun _ => true) true Tryd.f4.params.toList args.toList ds p := hA0
  rw [Tryd.params4] at hA hval
  obtain ⟨v0, d0, rfl, rfl, h0⟩ := trodAll_one hA
  obtain ⟨rfl, rfl⟩ := trodVars_none hV
  obtain ⟨a0, len0, cap0, rfl⟩ := okWide_slice Tryd.underlying25 (hval 0 25 v0 rfl rfl)
  clear hA0 hval0
  simp only [List.append_nil] at hW'
  have hlt : ∀ x ∈ p, x.block < W.heap.size := fun x hx => by simpa using hW'.lt x hx
  obtain ⟨ss, rfl, wn, w0, wz⟩ := strs_of h0 hlt
  refine (walk a0 cap0 ss W w0 wn wz (laid_clash hL)).mono fun e W' ⟨he, bel⟩ => ?_
  subst he
  exact ⟨_, rfl, _, _, _, [], p, [], hW', trodAll_mk1 (shut_bool Tryd.underlying4 _), trodAll_mk1 (Below.trod laidOut (by kernel_rfl) (of_decide_eq_true (by kernel_rfl)) h0 bel hlt), rfl, bel.frame _, fun h => by cases h⟩

theorem over : Rows.fnExactClashRow.holds Tryd.pinned (OpenSpec.ofChange Rows.fnExactClashSpec) :=
  OpenClaim.holds_of_wide 4 Tryd.f4 rfl rfl rfl rfl rfl rfl rfl ⟨rfl, rfl, rfl, rfl, rfl⟩ rfl rfl rfl rfl rfl (by kernel_rfl) Tryd.func4 (by kernel_rfl)
    (of_decide_eq_true (by kernel_rfl)) (by unfold Func.isWrapper; first | (rw [if_pos (by decide +kernel)]; kernel_rfl) | (rw [if_neg (by decide +kernel)]; exact ⟨rfl, rfl⟩))
    (fun os started H enc _ => lifted os started H enc)

theorem proved : Rows.FnExactClashCardSaid :=
  Claim7.holds_tied_plain_at .later [] [.data, .data, .data] true (true, "c7173318b6b654551dd95fb18f27a3b462a35d5973830c3b036a3ba8cc702780") false over (fun _ h => by cases h) (by kernel_rfl) (fun _ h => by cases h) fnExactClash_row_tie rfl ⟨rfl, rfl⟩ (by kernel_rfl) rfl
    (fun f fn hf hfn => by
      obtain rfl : f = 4 := Option.some.inj ((show Tryd.prog.funcNamed Rows.fnExactClashRow.func = some 4 by kernel_rfl).symm.trans hf) |>.symm
      obtain rfl : fn = Tryd.f4 := (Option.some.inj (Tryd.func4.symm.trans hfn)).symm
      exact ⟨by kernel_rfl, fun j t ht => by
        rw [Tryd.params4] at ht
        have hm : t ∈ [25] := by simpa using Array.mem_of_getElem? ht
        have hall : ([25].all fun u => !Tryd.prog.wantsStandIn u) = true := by kernel_rfl
        exact (show Tryd.prog.wantsStandIn t = false by simpa using List.all_eq_true.1 hall t hm)⟩)
    (by kernel_rfl)
end Go.Proofs.YtidkbpcceoocaaaDoor.fnExactClash

namespace Go.Proofs.YtidkbpcceoocaaaDoor
theorem fnExactClash_holds : Rows.FnExactClashCardSaid := fnExactClash.proved
#print axioms fnExactClash_holds
end Go.Proofs.YtidkbpcceoocaaaDoor
