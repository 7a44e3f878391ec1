/- Contracts of nodeThere, EndOf, KidsOf and TextIn of the program. -/
import Derived.Test.YtkcmagfbacmllabWImplT
import Derived.Test.YtkcmagfbacmllabBuilder
namespace Go.Proofs.Ytkcmagfbacmllab
open Go.RowKit
set_option linter.unusedVariables false
set_option linter.unusedSimpArgs false

set_option maxHeartbeats 2000000 in
theorem cThere (a : Option Addr) (cap : Nat) (ts : List Tk) (x : Int) (w : World) (hR : TkRow w a ts) (hn : ts.length ≤ 1048576) (hz : TksSz 1048576 ts) :
    Calls Try.prog 33 #[.slice a ts.length cap, .int .i64 x] w fun e w' => e = .returned (.bool (hasB ts x)) ∧ Below w.heap.size w w' := by
  have C := hid (cTreeOkI a cap ts w hR hn hz)
  obtain ⟨n, hnn⟩ : ∃ n, ts.length = n := ⟨_, rfl⟩
  rw [hasB_eq hnn]
  rw [hnn] at C ⊢
  clear hR hz hn hnn
  generalize treeB ts = B at *
  cases q1 : decide (0 ≤ x)
  · rw [Bool.false_and, Bool.and_false]
    go_enter Try.func33, Try.ntmps33
    go_wp2_with fail
    go_ret
    exact ⟨rfl, Below.refl _ _⟩
  · cases q2 : decide (x < (n : Int))
    · rw [Bool.and_false, Bool.and_false]
      go_enter Try.func33, Try.ntmps33
      go_wp2_with fail
      go_ret
      exact ⟨rfl, Below.refl _ _⟩
    · rw [Bool.and_true, Bool.and_true]
      go_enter Try.func33, Try.ntmps33
      go_wp2_with fail
      refine C.out.mono ?_
      rintro e w1 ⟨rfl, hb1⟩
      have HB1 := hid hb1
      clear hb1
      go_wp2_with fail
      go_ret
      exact ⟨rfl, HB1.out⟩

set_option maxHeartbeats 4000000 in
theorem cEndOfI (a : Option Addr) (cap : Nat) (ts : List Tk) (x : Int) (w : World) (hR : TkRow w a ts) (hn : ts.length ≤ 1048576) (hz : TksSz 1048576 ts) :
    Calls Try.prog 13 #[.slice a ts.length cap, .int .i64 x] w fun e w' => e = .returned (.int .i64 (endI ts x)) ∧ Below w.heap.size w w' := by
  have C := hid (cThere a cap ts x w hR hn hz)
  have HR := hid hR
  cases q : hasB ts x
  · have e1 : endI ts x = -1 := by unfold endI; rw [q]; rfl
    rw [e1]
    rw [q] at C
    clear hz hR e1
    generalize ts.length = n at *
    go_enter Try.func13, Try.ntmps13
    go_wp2_with fail
    refine C.out.mono ?_
    rintro e w1 ⟨rfl, hb1⟩
    have HB1 := hid hb1
    clear hb1
    go_wp2_with fail
    go_ret
    exact ⟨rfl, HB1.out⟩
  · obtain ⟨_, k, rfl, hk⟩ := hasB_t q
    have e1 : endI ts (k : Int) = (endN ts k : Int) := by unfold endI; rw [q]; rfl
    rw [e1]
    rw [q] at C
    clear hz hR e1 q
    obtain ⟨V, hV⟩ : ∃ V, endN ts k = V := ⟨_, rfl⟩
    have HV := hid hV
    rw [hV]
    clear hV
    obtain ⟨n, hnn⟩ : ∃ n, ts.length = n := ⟨_, rfl⟩
    have HN := hid hnn
    rw [hnn] at hn hk C ⊢
    clear hnn
    go_enter Try.func13, Try.ntmps13
    go_wp2_with fail
    refine C.out.mono ?_
    rintro e w1 ⟨rfl, hb1⟩
    have HB1 := hid hb1
    have HR1 := hid (HR.out.below hb1)
    clear hb1
    go_wp2_with fail
    go_loop [5] (fun v => ∃ e : Nat, v = .int .i64 (e : Int) ∧ k < e ∧ e ≤ n ∧ Hid (∀ j, k < j → j < e → (k : Int) ≤ parI ts j)) (fun v => n - (intOf v).toNat)
    case atStart => exact ⟨k + 1, by go_num, by omega, by omega, fun j h1 h2 => by omega⟩
    case round =>
      obtain ⟨e, rfl, h1, h2, HA⟩ := hrel
      by_cases hlt : e < n
      · have hes : e < ts.length := by rw [HN.out]; exact hlt
        have hin : (e : Int) < (n : Int) := by omega
        obtain ⟨b, o, rfl, c0, _⟩ := HR1.out.kindAt e hes
        by_cases hp : (k : Int) ≤ parI ts e
        · have HA2 := hid (show ∀ j, k < j → j < e + 1 → (k : Int) ≤ parI ts j from fun j g1 g2 => by
            rcases Nat.lt_or_eq_of_le (Nat.le_of_lt_succ g2) with h' | rfl
            · exact HA.out j g1 h'
            · exact hp)
          generalize parI ts e = P at *
          go_wp2
          go_round
          case rel => exact ⟨e + 1, by go_num, by omega, by omega, HA2.out⟩
          case measure => simp [intOf]; omega
        · have HW := hid (show V = e by rw [← HV.out]; exact endN_is h1 (by rw [HN.out]; exact h2) HA.out (.inr (by omega)))
          have hp' : parI ts e < (k : Int) := by omega
          generalize parI ts e = P at *
          go_wp2
          go_ret
          exact ⟨by rw [HW.out]; rfl, HB1.out⟩
      · have hee : e = n := by omega
        have HW := hid (show V = e by rw [← HV.out]; exact endN_is h1 (by rw [HN.out]; exact h2) HA.out (.inl (by rw [HN.out]; exact hee)))
        subst hee
        go_wp2
        go_ret
        exact ⟨by rw [HW.out]; rfl, HB1.out⟩

end Go.Proofs.Ytkcmagfbacmllab
