/- Contracts of the draws of a text, of a number and of a numeral; a number picked by the law. -/
import Derived.Test.YtidkbpcceoocaaaDoorTextBoth
import Derived.Test.YtidkbpcceoocaaaDoorHDraw
import Derived.Test.YtidkbpcceoocaaaDoorHDigits
namespace Go.Proofs.YtidkbpcceoocaaaDoor
open Go.RowKit
set_option linter.unusedVariables false
set_option linter.unusedSimpArgs false

theorem hide {p : Prop} (h : p) : Hid p := h

theorem cDHash (a : Option Addr) (len cap : Nat) (w : World) (hlen : len ≤ 4096) (hcr : CodeRow w a len) :
    Calls Tryd.prog 7 #[.slice a len cap] w fun e w' => ∃ t : ByteArray, e = .returned (.string t) ∧ t.size ≤ 8 ∧ Below w.heap.size w w' := by
  have HR := hide hcr
  clear hcr
  go_enter Tryd.func7, Tryd.ntmps7
  go_wp2_with fail
  refine (cNew a len cap w hlen HR.out).mono ?_
  rintro e w1 ⟨rfl, hC1⟩
  have HC1 := hide hC1
  clear hC1
  go_wp2_with fail
  refine (cBytes 9 w a len cap _ _ (by decide) (by decide) hlen HR.out HC1.out).mono ?_
  rintro e w2 ⟨t, rfl, ht, hC2, hG2⟩
  have HC2 := hide hC2
  clear hC2 hG2
  go_wp2_with fail
  go_ret
  exact ⟨t, rfl, by omega, HC2.out.2.1⟩

theorem cDDigits (a : Option Addr) (len cap : Nat) (w : World) (hlen : len ≤ 4096) (hcr : CodeRow w a len) :
    Calls Tryd.prog 9 #[.slice a len cap] w fun e w' => ∃ n : Int, e = .returned (.int .i64 n) ∧ Below w.heap.size w w' := by
  have HR := hide hcr
  clear hcr
  go_enter Tryd.func9, Tryd.ntmps9
  go_wp2_with fail
  refine (cNew a len cap w hlen HR.out).mono ?_
  rintro e w1 ⟨rfl, hC1⟩
  have HC1 := hide hC1
  have hlt := hC1.lt
  have hsz := hC1.size
  clear hC1
  go_wp2_with fail
  refine (cBelow 6 w a len cap _ _ hlen HR.out (HC1.out.alloc _) (by decide) (by decide)).mono ?_
  rintro e w2 ⟨x, rfl, hx, hC2, hG2⟩
  have hh : w2.heap[w1.heap.size]? = some (.cells #[.int .i64 0, .int .i64 7, .int .i64 2147483646, .int .i64 9999999999, .int .i64 10000000000, .int .i64 (-1)] 2 (0, 0)) :=
    (hG2.block _ (by simp) (by simp; omega)).trans (heap_alloc_new _ _)
  have HC2 := hide hC2
  clear hC2 hG2
  have hxi : (x : Int) < 6 := by omega
  have hcx : ∃ n : Int, w2.cell? ⟨w1.heap.size, x, none⟩ = some (.int .i64 n) := by
    rw [Lib.cell_of_heap hh]
    rcases (show x = 0 ∨ x = 1 ∨ x = 2 ∨ x = 3 ∨ x = 4 ∨ x = 5 by omega) with rfl | rfl | rfl | rfl | rfl | rfl <;> exact ⟨_, rfl⟩
  obtain ⟨n, c1⟩ := hcx
  clear hh
  go_wp2_with fail
  go_ret
  exact ⟨n, rfl, HC2.out.2.1⟩

theorem cDNumber (a : Option Addr) (len cap : Nat) (w : World) (hlen : len ≤ 4096) (hcr : CodeRow w a len) :
    Calls Tryd.prog 11 #[.slice a len cap] w fun e w' => ∃ t : ByteArray, e = .returned (.string t) ∧ t.size ≤ 1000 ∧ Below w.heap.size w w' := by
  have HR := hide hcr
  clear hcr
  go_enter Tryd.func11, Tryd.ntmps11
  go_wp2_with fail
  refine (cNew a len cap w hlen HR.out).mono ?_
  rintro e w1 ⟨rfl, hC1⟩
  have HC1 := hide hC1
  clear hC1
  go_wp2_with fail
  refine (cBelowBig 3000000000 w a len cap _ _ hlen HR.out HC1.out (by decide) (by decide)).mono ?_
  rintro e w2 ⟨x, rfl, hx, hC2, hG2⟩
  have HC2 := hide hC2
  clear hC2 hG2
  have hd : (dgL (x : Int)).length ≤ 29 := by
    unfold dgL
    rw [if_pos (by omega)]
    have := dec_le x (by omega)
    unfold padL
    simp
    omega
  have D := cDigS (x : Int) w2
  obtain ⟨X, hX⟩ : ∃ X : ByteArray, ⟨(dgL (x : Int)).toArray⟩ = X := ⟨_, rfl⟩
  have hXs : X.size ≤ 29 := by rw [← hX, size_mk]; exact hd
  rw [hX] at D
  clear hX hd
  go_wp2_with fail
  refine D.mono ?_
  rintro e w3 ⟨rfl, hb3⟩
  have HC3 := hide (HC2.out.below hb3)
  clear hb3 HC2
  go_wp2_with fail
  refine (cOnce 3 w a len cap _ _ hlen HR.out HC3.out (by decide) (by decide)).mono ?_
  rintro e w4 ⟨q, rfl, hC4, hG4⟩
  have HC4 := hide hC4
  clear hC4 hG4 HC3
  cases q with
  | false =>
    go_wp2_with fail
    go_ret
    exact ⟨X, rfl, by omega, HC4.out.2.1⟩
  | true =>
    go_wp2_with fail
    refine (cBend X _ w a len cap _ _ (by omega) (by decide) (by decide) hlen HR.out HC4.out).mono ?_
    rintro e w5 ⟨t, rfl, ht, hC5, hG5⟩
    have HC5 := hide hC5
    clear hC5 hG5
    go_wp2_with fail
    go_ret
    exact ⟨t, rfl, by omega, HC5.out.2.1⟩

theorem pick_step (k z s : Int) (hk : 0 ≤ k ∧ k < 1000003) (hz : 0 ≤ z ∧ z ≤ 255) (hs : 0 ≤ s ∧ s ≤ 10) : 0 ≤ (wrap64 (wrap64 (wrap64 (k * 233) + wrap64 z) + s)).tmod 1000003 ∧ (wrap64 (wrap64 (wrap64 (k * 233) + wrap64 z) + s)).tmod 1000003 < 1000003 := by
  have e0 : wrap64 z = z := IntWalk.wrap64_in _ (by omega)
  have e1 : wrap64 (k * 233) = k * 233 := IntWalk.wrap64_in _ (by omega)
  rw [e0, e1]
  have e2 : wrap64 (k * 233 + z) = k * 233 + z := IntWalk.wrap64_in _ (by omega)
  rw [e2]
  have e3 : wrap64 (k * 233 + z + s) = k * 233 + z + s := IntWalk.wrap64_in _ (by omega)
  rw [e3]
  exact ⟨Int.tmod_nonneg _ (by omega), Int.tmod_lt_of_pos _ (by omega)⟩

end Go.Proofs.YtidkbpcceoocaaaDoor
