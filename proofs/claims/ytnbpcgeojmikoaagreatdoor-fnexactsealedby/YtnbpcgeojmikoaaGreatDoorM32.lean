/- The walk of FnExactSealedBy. From a row's listed variables to what the walks ask: the library's table of tens. A key among the arguments, opened. -/
import Derived.Test.YtnbpcgeojmikoaaGreatDoorM20
import Derived.Test.YtnbpcgeojmikoaaGreatDoorM31
import Derived.Test.YtnbpcgeojmikoaaGreatDoorM10
import Derived.Test.YtnbpcgeojmikoaaGreatDoorRows
import Derived.Test.YtnbpcgeojmikoaaGreatDoorM17
import Derived.Deep.Cut
import Derived.Lib.LaidTab
import Derived.Lib.ItoaNum
import Derived.MakeChecks
import Derived.Lib.SmallJoins
import Derived.ProofKit
import Derived.OpenShut
namespace Go.Proofs.YtnbpcgeojmikoaaGreatDoor
open Go.RowKit
set_option linter.unusedVariables false
set_option linter.unusedSimpArgs false

set_option maxRecDepth 8000 in
set_option maxHeartbeats 16000000 in
theorem walkSealedBy (a0 : Option Addr) (cap0 : Nat) (l0 : List Tk) (a1 n2 e2 d2 : Int) (w : World) (wr0 : TkRow w a0 l0) (wn0 : l0.length ≤ maxLen) (wz0 : TksSz maxLen l0) (hE : e2 ≤ 9223372036854775807) (hL : Laid w) :
    Calls Tryz.prog 4 #[.slice a0 l0.length cap0, .int .i64 a1, .agg #[.int .i64 n2, .int .i64 e2, .int .i64 d2]] w fun e w' => e = .returned (.bool true) ∧ Below w.heap.size w w' := by
  obtain ⟨wA, hwA⟩ : ∃ wA, w.alloc (.cells #[.int .i64 n2, .int .i64 e2, .int .i64 d2] 40) = wA := ⟨_, rfl⟩
  have HBA := hid (show Below w.heap.size w wA by rw [← hwA]; exact (Below.refl w.heap.size w).alloc (Nat.le_refl _) _)
  have HBX := hid (show wA.cell? ⟨w.heap.size, 0, none⟩ = some (.int .i64 n2) ∧ wA.cell? ⟨w.heap.size, 1, none⟩ = some (.int .i64 e2) ∧ wA.cell? ⟨w.heap.size, 2, none⟩ = some (.int .i64 d2) ∧ w.heap.size < wA.heap.size by rw [← hwA]; exact box_key w _ _ _ _)
  have HR := hid (wr0.below HBA.out)
  have HLA := hid (hL.below HBA.out)
  have C0 := hid (Nd.cSzNodeS a0 cap0 l0 wA HR.out wz0 wn0)
  clear wr0 wz0 wn0 hL
  obtain ⟨n, hnn⟩ : ∃ n, l0.length = n := ⟨_, rfl⟩
  have HN := hid hnn
  rw [hnn] at C0 ⊢
  clear hnn
  go_enter Tryz.func4, Tryz.ntmps4
  go_wp2_with fail
  refine C0.out.mono ?_
  rintro e w1 ⟨r, rfl, hr, hb1⟩
  have HA1 := hid hb1
  clear hb1 C0 hwA
  rcases hr with rfl | ⟨h0, hn, hz, _⟩
  · go_wp2_with fail
    go_ret
    exact ⟨rfl, bb HBA.out HA1.out⟩
  · have hd2 : decide (r < 0) = false := by simp; omega
    have CT := hid (fun (wx : World) (hb : Below wA.heap.size wA wx) => Nd.cToNodeSL a0 cap0 l0 wx (HR.out.below hb) hz (by rw [HN.out]; exact hn))
    have CS := hid (fun (g : Nat) (wx : World) (h : TkRow wx (some ⟨g, 0, none⟩) l0) => cSealedByS (some ⟨g, 0, none⟩) l0.length l0 a1 n2 e2 d2 wx h (by rw [HN.out]; exact hn) hz hE)
    have CI := hid (fun (g : Nat) (wx : World) (h : TkRow wx (some ⟨g, 0, none⟩) l0) (hL : Laid wx) => cSealedByI (some ⟨g, 0, none⟩) l0.length l0 a1 n2 e2 d2 wx h (by rw [HN.out]; exact hn) hz hE hL)
    have CE := hid (fun (g g2 : Nat) (wx : World) (h : TkRow wx (some ⟨g, 0, none⟩) l0) (h2 : TkRow wx (some ⟨g2, 0, none⟩) l0) => Nd.cEqNodeS (some ⟨g, 0, none⟩) (some ⟨g2, 0, none⟩) l0.length l0.length l0 wx h h2 hz (by rw [HN.out]; exact hn))
    have CK := hid (fun wx => cToKey n2 e2 d2 wx)
    have D0 := hid (fun (wx : World) (hb : Below wA.heap.size wA wx) => (hb.cell (p := ⟨w.heap.size, 0, none⟩) HBX.out.2.2.2).trans HBX.out.1)
    have D1 := hid (fun (wx : World) (hb : Below wA.heap.size wA wx) => (hb.cell (p := ⟨w.heap.size, 1, none⟩) HBX.out.2.2.2).trans HBX.out.2.1)
    have D2 := hid (fun (wx : World) (hb : Below wA.heap.size wA wx) => (hb.cell (p := ⟨w.heap.size, 2, none⟩) HBX.out.2.2.2).trans HBX.out.2.2.1)
    rw [HN.out] at CT CS CI CE
    generalize byI l0 a1 n2 e2 d2 = V at CS CI
    have hVV : (V != V) = false := by cases V <;> rfl
    clear hz hE
    go_upto_region 5 with fail
    go_cut [8] from 16 (fun c wv => c = .bool V ∧ Hid (Below wA.heap.size wA wv))
    case first =>
      have HBc := hid HA1.out.drew
      have d0 := D0.out _ HBc.out
      have d1 := D1.out _ HBc.out
      have d2 := D2.out _ HBc.out
      clear CI CE HA1
      go_region_with (first
      | (go_at_call 17; refine (CT.out _ HBc.out).mono ?_; rintro e w2 ⟨G, cur, rfl, hh, _, hl, hb2⟩; rw [← HN.out] at hl; have S2 := hid (hl.tkRow hh); replace HBc := hid (bb HBc.out hb2); have d3 := D0.out _ HBc.out; have d4 := D1.out _ HBc.out; have d5 := D2.out _ HBc.out; clear hb2 hh hl)
      | (go_at_call 18; refine (CK.out _).mono ?_; rintro e w3 ⟨rfl, hb3⟩; replace HBc := hid (bb HBc.out hb3); replace S2 := hid (S2.out.below hb3); clear hb3)
      | (go_at_call 9; refine (CS.out _ _ S2.out).mono ?_; rintro e w4 ⟨rfl, hb4⟩; replace HBc := hid (bb HBc.out hb4); clear hb4))
      all_goals (go_wp2_with fail; go_meet; exact ⟨rfl, HBc.out⟩)
    case rest =>
      obtain ⟨rfl, HB4⟩ := hcut
      clear HA1 CS
      go_wp2_with fail
      refine (CT.out _ HB4.out).mono ?_
      rintro e w5 ⟨G5, cur5, rfl, hh, _, hl, hb5⟩
      rw [← HN.out] at hl
      have S5 := hid (hl.tkRow hh)
      have HB5 := hid (bb HB4.out hb5)
      have d0 := D0.out _ HB5.out
      have d1 := D1.out _ HB5.out
      have d2 := D2.out _ HB5.out
      clear hb5 hh hl HB4
      go_wp2_with fail
      refine (CK.out _).mono ?_
      rintro e w6 ⟨rfl, hb6⟩
      have HB6 := hid (bb HB5.out hb6)
      have S6 := hid (S5.out.below hb6)
      clear hb6 HB5 S5 d0 d1 d2
      go_wp2_with fail
      refine (CI.out _ _ S6.out (HLA.out.below HB6.out)).mono ?_
      rintro e w7 ⟨rfl, hb7⟩
      have HB7 := hid (bb HB6.out hb7)
      have S7 := hid (S6.out.below hb7)
      clear hb7 HB6 S6 CI
      go_wp2_with fail
      refine (CT.out _ HB7.out).mono ?_
      rintro e w8 ⟨G8, cur8, rfl, hh, _, hl, hb8⟩
      rw [← HN.out] at hl
      have S8 := hid (hl.tkRow hh)
      have HB8 := hid (bb HB7.out hb8)
      have S78 := hid (S7.out.below hb8)
      clear hb8 hh hl HB7 S7
      go_wp2_with fail
      refine (CE.out _ _ _ S78.out S8.out).mono ?_
      rintro e w9 ⟨rfl, hb9⟩
      have HB9 := hid (bb HBA.out (bb HB8.out hb9))
      clear hb9
      go_wp2_with fail
      go_ret
      exact ⟨rfl, HB9.out⟩

end Go.Proofs.YtnbpcgeojmikoaaGreatDoor

namespace Go.Proofs.YtnbpcgeojmikoaaGreatDoor
open Go.RowKit
set_option linter.unusedVariables false

theorem laid_mem {P : Program} {w : World} {name : String} {d : DataW Unit} : ∀ {l : List (String × DataW Unit)} {ps : List MemPlace}, DataW.LaidVars P w l ps → (name, d) ∈ l →
    ∃ g t cs fuel p, P.globalNamed name = some g ∧ (P.globals[g]?).map (·.type) = some t ∧ w.var? P name = some cs ∧ DataW.trod (fun _ => ()) P w 0 (fun _ => true) false fuel t cs.toList = some (d, p)
  | [], _, _, hm => by cases hm
  | (n, x) :: l, _, h, hm => by
    obtain ⟨g, t, cs, fuel, p, q, h1, h2, h3, h4, hs, _⟩ := h
    rcases List.mem_cons.1 hm with e | hm
    · cases e
      exact ⟨g, t, cs, fuel, p, h1, h2, h3, h4⟩
    · exact laid_mem hs hm

theorem heap_of_var {P : Program} {w : World} {name : String} {g : Nat} {cs : Array Value} (hg : P.globalNamed name = some g) (h : w.var? P name = some cs) : ∃ t fr, w.heap[g]? = some (.cells cs t fr) := by
  unfold World.var? at h
  rw [hg] at h
  simp only [Option.bind_some] at h
  split at h
  · rename_i c t fr hh
    cases h
    exact ⟨t, fr, hh⟩
  · cases h

/-- A listed table, by its name's number. -/
theorem tab_of {P : Program} {w : World} {l : List (String × DataW Unit)} {name : String} {k : IntKind} {zs : List Int} {g : Nat} {t e : TypeId} {n : Nat} (h : laidMet P l w) (hm : (name, Lib.tabData k zs) ∈ l)
    (hg : P.globalNamed name = some g) (hty : (P.globals[g]?).map (·.type) = some t) (ht : P.underlying t = some (.array n e)) (he : P.underlying e = some (.int k)) (hce : P.cellsOf e = 1) (hct : P.cellsOf t = n) : Lib.TabIs P w name k zs := by
  obtain ⟨ps, hv, _⟩ := h
  obtain ⟨g', t', cs, fuel, p, h1, h2, h3, h4⟩ := laid_mem hv hm
  obtain rfl := Option.some.inj (hg.symm.trans h1)
  obtain rfl := Option.some.inj (hty.symm.trans h2)
  unfold Lib.TabIs
  rw [h3, ← Lib.cells_of_tab ht he hce hct h4]

theorem pow_data : (Lib.tabData .u64 Lib.pow10Tab : DataW Unit) = Rows.laid_internal_strconv_uint64pow10 := by kernel_rfl

theorem laid_of {l : List (String × DataW Unit)} {w : World} (h : laidMet Tryz.prog l w) (h2 : (powName, Rows.laid_internal_strconv_uint64pow10) ∈ l) : Laid w := by
  rw [← pow_data] at h2
  exact tab_of h h2 (g := 0) (t := 266) (by kernel_rfl) (by kernel_rfl) Tryz.underlying266 Tryz.underlying249 (by kernel_rfl) (by kernel_rfl)

theorem laid_sealedBy {w : World} (h : laidMetH Tryz.prog Rows.fnExactSealedByRow.laid w) : Laid w := by
  rw [MakeChecks.laidMetH_plain _ _ _ (by kernel_rfl)] at h
  exact laid_of h (.tail _ (.tail _ (.head _)))

theorem laid_broken {w : World} (h : laidMetH Tryz.prog Rows.fnBrokenRow.laid w) : Laid w := laid_sealedBy h

end Go.Proofs.YtnbpcgeojmikoaaGreatDoor

namespace Go.Proofs.YtnbpcgeojmikoaaGreatDoor
open Go.ChangeShapes Go.WideShapes Go.ChangeAt Go.RowKit
set_option linter.unusedVariables false

set_option maxRecDepth 100000 in
theorem key_of {H : Type} {enc : TypeId × Value → H} {W : World} {base : Nat} {v : Value} {d : DataW H} {p : List MemPlace}
    (hv : Value.okWide Tryz.prog W .any base 40 v) (h : DataW.Trod enc Tryz.prog W 0 (fun _ => true) true 40 v d p) :
    ∃ a b c : Int, v = .agg #[.int .i64 a, .int .i64 b, .int .i64 c] ∧ (Lit.int .i64 a).wf = true ∧ (Lit.int .i64 b).wf = true ∧ (Lit.int .i64 c).wf = true := by
  obtain ⟨v0, v1, v2, y0, y1, y2, n, rfl, _, _, h0, h1, h2⟩ := Joins.open_agg3 Tryz.underlying40 (by kernel_rfl) (by kernel_rfl) hv h
  obtain ⟨a, ha, _, wa⟩ := DataW.trod_int Tryz.underlying2 h0
  obtain ⟨b, hb, _, wb⟩ := DataW.trod_int Tryz.underlying2 h1
  obtain ⟨c, hc, _, wc⟩ := DataW.trod_int Tryz.underlying2 h2
  simp only [List.cons.injEq, and_true] at ha hb hc
  subst ha hb hc
  exact ⟨a, b, c, rfl, wa, wb, wc⟩

end Go.Proofs.YtnbpcgeojmikoaaGreatDoor
