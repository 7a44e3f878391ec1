/- Contracts of copiedAttrs, copiedToken and closings of the program. -/
import Derived.Test.YtkcmagfbacmllabWPileF
import Derived.Test.YtkcmagfbacmllabWRowT
import Derived.Test.YtkcmagfbacmllabWImplA
import Derived.Test.YtkcmagfbacmllabSNClone
import Derived.Deep.RegionHeld3
namespace Go.Proofs.Ytkcmagfbacmllab
open Go.RowKit
set_option linter.unusedVariables false
set_option linter.unusedSimpArgs false

theorem own_ats {w : World} {B : Nat} {v : Value} {n : Nat} {l : List At} (h : w.ownsRow B 88 2 v n (atC l)) (hn : l.length = n) : ∃ a c, v = .slice a n c ∧ OwnAts w B a l := by
  rcases h.2 with ⟨rfl, rfl⟩ | ⟨g, cp, cur, rfl, hg, hh, hn', hc, hs, ht⟩
  · exact ⟨none, 0, rfl, fun hl => by omega⟩
  · refine ⟨_, cp, rfl, fun _ => ⟨g, 0, cur, rfl, hg, hh, fun j hj => ?_⟩⟩
    obtain ⟨g1, g2⟩ := atC_get l j hj
    rw [← ht, List.getElem?_take] at g1 g2
    refine ⟨?_, ?_⟩
    · rw [Nat.zero_add, ← Array.getElem?_toList]
      split at g1
      · exact g1
      · cases g1
    · rw [Nat.zero_add, ← Array.getElem?_toList]
      split at g2
      · exact g2
      · cases g2

theorem atC_app (l m : List At) : atC (l ++ m) = atC l ++ atC m := by simp [atC]

theorem cell_grownR {w w' : World} {row : Option Nat} (h : w.grownBy w' row) {b o : Nat} {v : Value} (hc : w.cell? ⟨b, o, none⟩ = some v) (hb : b < w.heap.size) (hr : row ≠ some b) : w'.cell? ⟨b, o, none⟩ = some v :=
  (World.cell?_of_block (a := ⟨b, o, none⟩) (h.block b hb (fun e => hr e.symm))).trans hc

set_option maxRecDepth 8000 in
set_option maxHeartbeats 8000000 in
theorem cCopiedAttrs (a : Option Addr) (cap : Nat) (l : List At) (w : World) (hR : AtRow w a l) (hz : AtSz 1048576 l) (hn : l.length ≤ 1048576) :
    Calls Try.prog 77 #[.slice a l.length cap] w fun e w' => ∃ a' c', e = .returned (.slice a' l.length c') ∧ OwnAts w' w.heap.size a' l ∧ Below w.heap.size w w' := by
  obtain ⟨i0, hi, hz0, hz1, hz2⟩ := info_parts infoAtW
  have HI := hid (And.intro hi (And.intro hz0 (And.intro hz1 hz2)))
  have HR := hid hR
  have HZ := hid hz
  clear hR hz hi hz0 hz1 hz2
  obtain ⟨n, hnn⟩ : ∃ n, l.length = n := ⟨_, rfl⟩
  have HN := hid hnn
  rw [hnn] at hn ⊢
  clear hnn
  go_enter Try.func77, Try.ntmps77
  go_wp2_with fail
  go_loopw [3, 8] (fun v k wr => ∃ i : Nat, k = .int .i64 (i : Int) ∧ i ≤ n ∧ Hid (wr.ownsRow w.heap.size 88 2 v i (atC (l.take i))) ∧ Hid (Below w.heap.size w wr)) (fun _ k _ => n - (intOf k).toNat)
  case atStart => exact ⟨0, rfl, Nat.zero_le _, World.ownsRow_nil _ _ _ _, Below.refl _ _⟩
  case round =>
    obtain ⟨i, rfl, hin, HO, HB⟩ := hrel
    by_cases hlt : i < n
    case neg =>
      have hie : i = n := by omega
      subst hie
      have HO2 := HO.out
      rw [List.take_of_length_le (by rw [HN.out]; exact Nat.le_refl _)] at HO2
      obtain ⟨a', c', hv, hoa⟩ := own_ats HO2 HN.out
      have HOA := hid hoa
      subst hv
      clear HO2 hoa
      go_wp2_with fail
      go_ret
      exact ⟨_, _, rfl, HOA.out, HB.out⟩
    have his : i < l.length := by rw [HN.out]; exact hlt
    have hinn : (i : Int) < (n : Int) := by omega
    obtain ⟨b, o, rfl, hb, c1, c2⟩ := (HR.out.below HB.out) i his
    obtain ⟨z1, z2⟩ := HZ.out _ (List.getElem_mem his)
    have HX := hid (show atC (l.take (i + 1)) = atC (l.take i) ++ [.string l[i].name, .string l[i].value] by rw [take_snocN his, atC_app]; rfl)
    have CX := hid (fun w => c_strings_Clone l[i].name w z1)
    have CY := hid (fun w => c_strings_Clone l[i].value w z2)
    generalize l[i].name = x at *
    generalize l[i].value = y at *
    clear z1 z2
    have M := hid (heap_alloc_new wr (.cells #[.string x, .string y] 88))
    have HB0 := hid (HB.out.alloc HB.out.size (.cells #[.string x, .string y] 88))
    have HO0 := hid (HO.out.alloc (.cells #[.string x, .string y] 88))
    have HVL := hid (fun k e => (HO.out.lt k e).2)
    have hws := HB.out.size
    obtain ⟨a5, c5, hv5⟩ := own_len HO.out
    obtain ⟨g, hg⟩ : ∃ g, wr.heap.size = g := ⟨_, rfl⟩
    have Hg := hid hg
    subst hv5
    clear HO
    go_wp2_with fail
    obtain ⟨W0, hW0⟩ : ∃ W0, wr.alloc (.cells #[.string x, .string y] 88) = W0 := ⟨_, rfl⟩
    rw [hW0] at M HB0 HO0
    simp only [hW0, hg] at M ⊢
    have HBc := hid ((Below.refl W0.heap.size W0).drew)
    have hgl := hid (lt_of_heap M.out)
    have hk := hid (box2c M.out)
    have HON := hid (show ∀ u ∈ [Value.string x, Value.string y], u.oneCell' = true by
      intro u hu
      simp at hu
      rcases hu with rfl | rfl <;> rfl)
    clear c1 c2 hW0
    rw [hg] at HVL hws
    obtain ⟨hi, hz0, hz1, hz2⟩ := HI.out
    go_region_held3 (fun w' => w'.cell? ⟨g, 0, none⟩ = some (.string x) ∧ w'.cell? ⟨g, 1, none⟩ = some (.string y)) (first | exact HK.out | exact ⟨(HBc.out.cell (p := ⟨g, 0, none⟩) hgl.out).trans hk.out.1, (HBc.out.cell (p := ⟨g, 1, none⟩) hgl.out).trans hk.out.2⟩ | go_keep)
      (first
        | (go_at_call 74; refine (CX.out _).mono ?_; rintro e w1 ⟨rfl, hb1⟩; replace HBc := hid (bb HBc.out hb1); clear hb1)
        | (go_at_call 74; refine (CY.out _).mono ?_; rintro e w1 ⟨rfl, hb1⟩; replace HBc := hid (bb HBc.out hb1); clear hb1)
        | (refine step_app_at rfl (.tmp 12) (.tmp 20) 42 rfl w.heap.size 88 i0 _ 2 32 Try.underlying42 hi hz0 hz1 hz2 rfl (by decide) (.slice a5 i c5) i (atC (l.take i)) (by simp [Act.eval, Act.put]) ((ownsRow_below HO0.out HBc.out).alloc _) ⟨_, 0, none⟩ 1 1 [.string x, .string y] (by simp [Act.eval, Act.put]) rfl (two_cells _ _ _ _) HON.out (by unfold maxLen; omega) (by omega) (by simp; have := HBc.out.size; have := hgl.out; omega) ?_; intro v' w2 hown' hgrow hv'; have HBd := hid (bb HBc.out ((Below.refl _ _).alloc (Nat.le_refl _) (.cells #[.string x, .string y] 88))); have HK := hid (And.intro (cell_grownR hgrow ((HBd.out.cell (p := ⟨g, 0, none⟩) hgl.out).trans hk.out.1) (Nat.lt_of_lt_of_le hgl.out HBd.out.size) (fun e => by (have := HVL.out _ e; omega))) (cell_grownR hgrow ((HBd.out.cell (p := ⟨g, 1, none⟩) hgl.out).trans hk.out.2) (Nat.lt_of_lt_of_le hgl.out HBd.out.size) (fun e => by (have := HVL.out _ e; omega))))))
    have HO2 := hid (show w2.ownsRow w.heap.size 88 2 v' (i + 1) (atC (l.take (i + 1))) by rw [HX.out]; exact hown')
    have HB2 := hid ((bb HB0.out HBd.out).grown hgrow (by have := (bb HB0.out HBd.out).size; exact this) (fun k e => ((ownsRow_below HO0.out HBc.out).lt k e).1))
    obtain ⟨a6, c6, hv6⟩ := own_len hown'
    subst hv6
    clear hown' hgrow hv' HK HBd
    go_wp2_with fail
    go_roundw
    case rel => exact ⟨i + 1, by go_num, by omega, HO2.out, HB2.out⟩
    case measure => simp [intOf]; omega

end Go.Proofs.Ytkcmagfbacmllab
