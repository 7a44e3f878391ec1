/- Contracts of the draws of the law on times. -/
import Derived.Test.YtbphbjkmgmgpkaaDoorTDraw
import Derived.Test.YtbphbjkmgmgpkaaDoorBend
import Derived.Test.YtbphbjkmgmgpkaaDoorTTextS
namespace Go.Proofs.YtbphbjkmgmgpkaaDoor
open Go.RowKit
set_option linter.unusedVariables false
set_option linter.unusedSimpArgs false

theorem Cur.belowT {w0 : World} {a : Option Addr} {len cap b : Nat} {w w1 : World} (h : Cur w0 a len cap b w) (hb : Below w.heap.size w w1) : Cur w0 a len cap b w1 := by
  have hlt := h.lt
  obtain ⟨h0, h2, i, x, h3, h4, hh⟩ := h
  exact ⟨h0, h2.trans (hb.mono h2.size), i, x, h3, h4, (hb.block b hlt).trans hh⟩

def wrongObj : Obj := .cells #[.int .i64 (-1), .int .i64 3155760000, .int .i64 4611686018427387904] 2 (0, 0)

theorem wrong_at (w : World) (B x : Nat) (hx : x < 3) (h : w.heap[B]? = some wrongObj) : ∃ t : Int, w.cell? ⟨B, x, none⟩ = some (.int .i64 t) ∧ -1 ≤ t ∧ t ≤ 4611686018427387904 := by
  rw [Lib.cell_of_heap h]
  rcases (show x = 0 ∨ x = 1 ∨ x = 2 from by omega) with rfl | rfl | rfl
  · exact ⟨-1, rfl, by decide, by decide⟩
  · exact ⟨3155760000, rfl, by decide, by decide⟩
  · exact ⟨4611686018427387904, rfl, by decide, by decide⟩

set_option maxHeartbeats 2000000 in
theorem cTextD (a : Option Addr) (len cap : Nat) (w : World) (hlen : len ≤ 4096) (hcr : CodeRow w a len) :
    Calls Tryd.prog 8 #[.slice a len cap] w fun e w' => ∃ t : Int, e = .returned (.int .i64 t) ∧ -1 ≤ t ∧ t ≤ 4611686018427387904 ∧ Below w.heap.size w w' := by
  have HR : Hid (CodeRow w a len) := hcr
  clear hcr
  go_enter Tryd.func8, Tryd.ntmps8
  go_wp2_with fail
  refine (cNew a len cap _ hlen HR.out).mono ?_
  rintro e w1 ⟨rfl, hC1⟩
  go_wp2_with fail
  refine (cOnce 8 w a len cap _ _ hlen HR.out hC1 (by decide) (by decide)).mono ?_
  rintro e w2 ⟨q, rfl, hC2, _⟩
  have HC2 : Hid (Cur w a len cap w.heap.size w2) := hC2
  clear hC2 hC1
  cases q
  · go_wp2_with fail
    refine (cTDraw w a len cap _ _ hlen HR.out HC2.out).mono ?_
    rintro e w3 ⟨t, rfl, ht, hC3⟩
    go_wp2
    go_ret
    exact ⟨t, rfl, by omega, by omega, hC3.2.1⟩
  · have HN : Hid ((w2.alloc wrongObj).heap[w2.heap.size]? = some wrongObj) := heap_alloc_new w2 _
    have hbl : w.heap.size < w2.heap.size := HC2.out.lt
    go_wp2_with fail
    refine (cBelow 3 w a len cap _ _ hlen HR.out (HC2.out.alloc _) (by decide) (by decide)).mono ?_
    rintro e w3 ⟨x, rfl, hx, hC3, hG3⟩
    obtain ⟨t, ht, ht1, ht2⟩ := wrong_at w3 w2.heap.size x hx ((hG3.block w2.heap.size (by simp) (by simp; omega)).trans HN.out)
    have hxi : (x : Int) < 3 := by omega
    have HC3 : Hid (Cur w a len cap w.heap.size w3) := hC3
    clear hC3 hG3 hbl
    go_wp2
    go_ret
    exact ⟨t, rfl, ht1, ht2, HC3.out.2.1⟩

abbrev yearsObj : Obj := .cells #[.int .i64 1999, .int .i64 2000, .int .i64 2001, .int .i64 2004, .int .i64 2099, .int .i64 2100] 2 (0, 0)

theorem years_at (w : World) (B x : Nat) (hx : x < 6) (h : w.heap[B]? = some yearsObj) : ∃ t : Int, w.cell? ⟨B, x, none⟩ = some (.int .i64 t) := by
  rw [Lib.cell_of_heap h]
  rcases (show x = 0 ∨ x = 1 ∨ x = 2 ∨ x = 3 ∨ x = 4 ∨ x = 5 from by omega) with rfl | rfl | rfl | rfl | rfl | rfl
  all_goals exact ⟨_, rfl⟩

set_option maxHeartbeats 2000000 in
theorem cFrom14 (w0 : World) (a : Option Addr) (len cap b : Nat) (w : World) (hlen : len ≤ 4096) (hcr : CodeRow w0 a len) (hC : Cur w0 a len cap b w) :
    Calls Tryd.prog 28 #[.pointer (some ⟨b, 0, none⟩), .int .i64 0, .int .i64 13] w fun e w' => ∃ n : Int, e = .returned (.int .i64 n) ∧ Cur w0 a len cap b w' := by
  have HR : Hid (CodeRow w0 a len) := hcr
  have HC : Hid (Cur w0 a len cap b w) := hC
  clear hcr hC
  go_enter Tryd.func28, Tryd.ntmps28
  go_wp2_with fail
  refine (cBelow 14 w0 a len cap _ _ hlen HR.out HC.out (by decide) (by decide)).mono ?_
  rintro e w1 ⟨x, rfl, hx, hC1, _⟩
  go_wp2
  go_ret
  exact ⟨_, rfl, hC1⟩

set_option maxHeartbeats 2000000 in
theorem cDaysD (a : Option Addr) (len cap : Nat) (w : World) (hlen : len ≤ 4096) (hcr : CodeRow w a len) :
    Calls Tryd.prog 12 #[.slice a len cap] w fun e w' => ∃ y m : Int, e = .returned (.tuple #[.int .i64 y, .int .i64 m]) ∧ Below w.heap.size w w' := by
  have HR : Hid (CodeRow w a len) := hcr
  clear hcr
  go_enter Tryd.func12, Tryd.ntmps12
  go_wp2_with fail
  refine (cNew a len cap _ hlen HR.out).mono ?_
  rintro e w1 ⟨rfl, hC1⟩
  have HC1 : Hid (Cur w a len cap w.heap.size w1) := hC1
  have HN : Hid ((w1.alloc yearsObj).heap[w1.heap.size]? = some yearsObj) := heap_alloc_new w1 _
  have hbl : w.heap.size < w1.heap.size := HC1.out.lt
  clear hC1
  go_wp2_with fail
  refine (cBelow 6 w a len cap _ _ hlen HR.out (HC1.out.alloc _) (by decide) (by decide)).mono ?_
  rintro e w3 ⟨x, rfl, hx, hC3, hG3⟩
  obtain ⟨t, ht⟩ := years_at w3 w1.heap.size x hx ((hG3.block w1.heap.size (by simp) (by simp; omega)).trans HN.out)
  have hxi : (x : Int) < 6 := by omega
  have HC3 : Hid (Cur w a len cap w.heap.size w3) := hC3
  clear hC3 hG3 hbl
  go_wp2_with fail
  refine (cFrom14 w a len cap _ _ hlen HR.out HC3.out).mono ?_
  rintro e w4 ⟨n, rfl, hC4⟩
  go_wp2
  go_ret2
  exact ⟨t, n, rfl, hC4.2.1⟩

end Go.Proofs.YtbphbjkmgmgpkaaDoor
