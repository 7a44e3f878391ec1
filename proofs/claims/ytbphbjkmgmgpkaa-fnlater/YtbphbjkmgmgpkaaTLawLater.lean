/- The law on later times: whatever is drawn, it answers true. -/
import Derived.Test.YtbphbjkmgmgpkaaTLater
import Derived.Test.YtbphbjkmgmgpkaaTDraw
import Derived.Deep.RegionWith
namespace Go.Proofs.Ytbphbjkmgmgpkaa
open Go.RowKit
set_option linter.unusedVariables false
set_option linter.unusedSimpArgs false

abbrev offsObj : Obj := .cells #[.int .i64 0, .int .i64 60, .int .i64 (-60), .int .i64 86400, .int .i64 3155759999, .int .i64 (-3155759999), .int .i64 3155760000, .int .i64 4611686018427387904] 2 (0, 0)

def offs (x : Nat) : Int := [0, 60, -60, 86400, 3155759999, -3155759999, 3155760000, 4611686018427387904].getD x 0

theorem offs_at (w : World) (B x : Nat) (hx : x < 8) (h : w.heap[B]? = some offsObj) : w.cell? ⟨B, x, none⟩ = some (.int .i64 (offs x)) := by
  rw [Lib.cell_of_heap h]
  rcases (show x = 0 ∨ x = 1 ∨ x = 2 ∨ x = 3 ∨ x = 4 ∨ x = 5 ∨ x = 6 ∨ x = 7 from by omega) with rfl | rfl | rfl | rfl | rfl | rfl | rfl | rfl
  all_goals rfl

theorem offs_bounds (x : Nat) (hx : x < 8) : -3155759999 ≤ offs x ∧ offs x ≤ 4611686018427387904 := by
  rcases (show x = 0 ∨ x = 1 ∨ x = 2 ∨ x = 3 ∨ x = 4 ∨ x = 5 ∨ x = 6 ∨ x = 7 from by omega) with rfl | rfl | rfl | rfl | rfl | rfl | rfl | rfl
  all_goals decide

set_option maxHeartbeats 4000000 in
theorem cLaterD (a : Option Addr) (len cap : Nat) (w : World) (hlen : len ≤ 4096) (hcr : CodeRow w a len) :
    Calls Try.prog 6 #[.slice a len cap] w fun e w' => ∃ (t : Nat) (d : Int), e = .returned (.tuple #[.int .i64 t, .int .i64 d]) ∧ t ≤ 3155759999 ∧ -3155759999 ≤ d ∧ d ≤ 4611686018427387904 ∧ Below w.heap.size w w' := by
  have HR : Hid (CodeRow w a len) := hcr
  clear hcr
  go_enter Try.func6, Try.ntmps6
  go_wp2_with fail
  refine (cNew a len cap _ hlen HR.out).mono ?_
  rintro e w1 ⟨rfl, hC1⟩
  go_wp2_with fail
  refine (cTDraw w a len cap _ _ hlen HR.out hC1).mono ?_
  rintro e w2 ⟨t, rfl, ht, hC2⟩
  have HC2 : Hid (Cur w a len cap w.heap.size w2) := hC2
  clear hC1 hC2
  go_wp2_with fail
  have hbl : w.heap.size < w2.heap.size := HC2.out.lt
  go_region_with (go_at_call 11; first
    | (refine (cBelow 8 w a len cap _ _ hlen HR.out ((HC2.out.alloc offsObj).drewN 1) (by decide) (by decide)).mono ?_; rintro e w3 ⟨x, rfl, hx, hC3, hG3⟩; have hcell := offs_at w3 w2.heap.size x hx ((hG3.block w2.heap.size (by show w2.heap.size < (w2.alloc offsObj).heap.size; simp) (by simp; omega)).trans (heap_alloc_new w2 _)); have hxi : (x : Int) < 8 := by omega)
    | (refine (cBelow 8 w a len cap _ _ hlen HR.out (HC2.out.drewN 1) (by decide) (by decide)).mono ?_; rintro e w3 ⟨x, rfl, hx, hC3, hG3⟩; have hcell := fun W : World => offs_at (W.alloc offsObj) W.heap.size x hx (heap_alloc_new W _); have hxi : (x : Int) < 8 := by omega))
  all_goals
    have hob := offs_bounds x hx
    have HC3 : Hid (Cur w a len cap w.heap.size w3) := hC3
    clear hC3 hG3
    go_wp2_with fail
    go_ret2
    exact ⟨t, offs x, rfl, ht, hob.1, hob.2, by first | exact HC3.out.2.1 | exact (HC3.out.alloc _).2.1 | exact ((HC3.out.alloc _).drewN 1).2.1 | exact (HC3.out.drewN 1).2.1⟩

theorem wrap64_in (x : Int) (h0 : -9223372036854775808 ≤ x) (h1 : x ≤ 9223372036854775807) : wrap64 x = x := by
  unfold wrap64
  omega

theorem later_out (t d : Int) (h : 3155759999 < d) : laterOf t d = -1 := if_neg (fun x => by omega)

set_option maxHeartbeats 4000000 in
theorem law_later (a : Option Addr) (len cap : Nat) (w : World) (hcr : CodeRow w a len) :
    Calls Try.prog 3 #[.slice a len cap] w fun e w' => e = .returned (.bool true) ∧ Below w.heap.size w w' := by
  have HR : Hid (CodeRow w a len) := hcr
  clear hcr
  by_cases hbig : len ≤ 4096
  · go_enter Try.func3, Try.ntmps3
    go_wp2_with fail
    refine (cBig_no a len cap _ hbig).mono ?_
    rintro e0 w' ⟨rfl, rfl⟩
    go_wp2_with fail
    refine (cLaterD a len cap _ hbig HR.out).mono ?_
    rintro e0 w1 ⟨t, d, rfl, ht, hd0, hd1, hb⟩
    have LI := fun w => cLaterI t d w
    have LS := fun w => cLaterS t d w
    obtain ⟨x, hx⟩ : ∃ x : Int, laterOf t d = x := ⟨_, rfl⟩
    have hwr : d ≤ 3155759999 → IntKind.i64.wrap ((t : Int) + d) = (t : Int) + d := fun h => IntWalk.i64_in _ (by omega)
    by_cases hd : 3155759999 < d
    · rw [later_out t d hd] at LI LS
      have b1 : decide ((t : Int) < 0) = false := by simp
      have b2 : decide ((3155759999 : Int) < (t : Int)) = false := by simp; omega
      have b3 : decide (d < -3155759999) = false := by simp; omega
      clear hx hwr ht hd0 hd1
      go_wp2_with fail
      refine (LI _).mono ?_
      rintro e0 w2 ⟨rfl, rfl⟩
      go_wp2_with fail
      refine (LS _).mono ?_
      rintro e0 w2 ⟨rfl, rfl⟩
      go_wp2_with fail
      go_ret
      exact ⟨rfl, hb⟩
    · replace hwr := hwr (by omega)
      have e : laterOf t d = if (t : Int) + d < 0 then 0 else if 3155759999 < (t : Int) + d then 3155759999 else (t : Int) + d := if_pos ⟨⟨by omega, by omega⟩, hd0, by omega⟩
      have b1 : decide ((t : Int) < 0) = false := by simp
      have b2 : decide ((3155759999 : Int) < (t : Int)) = false := by simp; omega
      have b3 : decide (d < -3155759999) = false := by simp; omega
      have b4 : decide (3155759999 < d) = false := by simp; omega
      obtain ⟨s, hs⟩ : ∃ s : Int, (t : Int) + d = s := ⟨_, rfl⟩
      have hw64 : wrap64 ((t : Int) + d) = s := (wrap64_in _ (by omega) (by omega)).trans hs
      replace hwr := hwr.trans hs
      rw [hs] at e
      by_cases h1 : s < 0
      · rw [if_pos h1] at e
        rw [e] at LI LS
        have c0 : decide (0 ≤ d) = false := by simp; omega
        have c1 : decide (d ≤ 0) = true := by simp; omega
        have c2 : (0 == s) = false := by simp; omega
        have c3 : decide (s < 0) = true := by simp; omega
        clear e hx ht hd0 hd1 hd hs h1
        go_wp2_with fail
        refine (LI _).mono ?_
        rintro e0 w2 ⟨rfl, rfl⟩
        go_wp2_with fail
        refine (LS _).mono ?_
        rintro e0 w2 ⟨rfl, rfl⟩
        clear LI LS
        go_wp2_with fail
        go_ret
        exact ⟨rfl, hb⟩
      · rw [if_neg h1] at e
        by_cases h2 : 3155759999 < s
        · rw [if_pos h2] at e
          rw [e] at LI LS
          have c0 : decide (0 ≤ d) = true := by simp; omega
          have c1 : decide (d ≤ 0) = false := by simp; omega
          have c2 : ((3155759999 : Int) == s) = false := by simp; omega
          have c3 : decide (3155759999 < s) = true := by simp; omega
          clear e hx ht hd0 hd1 hd hs h1 h2
          go_wp2_with fail
          refine (LI _).mono ?_
          rintro e0 w2 ⟨rfl, rfl⟩
          go_wp2_with fail
          refine (LS _).mono ?_
          rintro e0 w2 ⟨rfl, rfl⟩
          clear LI LS
          go_wp2_with fail
          go_ret
          exact ⟨rfl, hb⟩
        · rw [if_neg h2] at e
          rw [e] at LI LS
          have c5 : decide (s < 0) = false := by simp; omega
          have c6 : decide (3155759999 < s) = false := by simp; omega
          rcases (show d < 0 ∨ d = 0 ∨ 0 < d by omega) with h3 | h3 | h3
          · have c0 : decide (0 ≤ d) = false := by simp; omega
            have c1 : decide (d ≤ 0) = true := by simp; omega
            have c2 : decide ((t : Int) < s) = false := by simp; omega
            clear e hx ht hd0 hd1 hd hs h1 h2 h3
            go_wp2_with fail
            refine (LI _).mono ?_
            rintro e0 w2 ⟨rfl, rfl⟩
            go_wp2_with fail
            refine (LS _).mono ?_
            rintro e0 w2 ⟨rfl, rfl⟩
            clear LI LS
            go_wp2_with fail
            go_ret
            exact ⟨rfl, hb⟩
          · have c0 : decide (0 ≤ d) = true := by simp; omega
            have c1 : decide (d ≤ 0) = true := by simp; omega
            have c2 : decide ((t : Int) < s) = false := by simp; omega
            have c3 : decide (s < (t : Int)) = false := by simp; omega
            clear e hx ht hd0 hd1 hd hs h1 h2 h3
            go_wp2_with fail
            refine (LI _).mono ?_
            rintro e0 w2 ⟨rfl, rfl⟩
            go_wp2_with fail
            refine (LS _).mono ?_
            rintro e0 w2 ⟨rfl, rfl⟩
            clear LI LS
            go_wp2_with fail
            go_ret
            exact ⟨rfl, hb⟩
          · have c0 : decide (0 ≤ d) = true := by simp; omega
            have c1 : decide (d ≤ 0) = false := by simp; omega
            have c2 : decide (s < (t : Int)) = false := by simp; omega
            clear e hx ht hd0 hd1 hd hs h1 h2 h3
            go_wp2_with fail
            refine (LI _).mono ?_
            rintro e0 w2 ⟨rfl, rfl⟩
            go_wp2_with fail
            refine (LS _).mono ?_
            rintro e0 w2 ⟨rfl, rfl⟩
            clear LI LS
            go_wp2_with fail
            go_ret
            exact ⟨rfl, hb⟩
  · go_enter Try.func3, Try.ntmps3
    go_wp2_with fail
    refine (cBig_yes a len cap _ hbig).mono ?_
    rintro e0 w' ⟨rfl, rfl⟩
    go_wp2_with fail
    go_ret
    exact ⟨rfl, Below.refl _ _⟩

end Go.Proofs.Ytbphbjkmgmgpkaa
