/- Contracts of the draws of a name: some text of at most eleven bytes. -/
import Derived.Test.YtgonljhpieklmaaRows
import Derived.Test.YtgonljhpieklmaaKit
import Derived.Test.YtgonljhpieklmaaDraw
import Derived.Test.YtgonljhpieklmaaBend
import Derived.WalkKit
namespace Go.Proofs.Ytgonljhpieklmaa
open Go.RowKit
set_option linter.unusedVariables false
set_option linter.unusedSimpArgs false

/-- The names that are drawn. -/
def namesObj : Obj := .cells #[.string ⟨#[97]⟩, .string ⟨#[98]⟩, .string ⟨#[112, 58, 97]⟩, .string ⟨#[113, 58, 98]⟩, .string ⟨#[73, 100]⟩, .string ⟨#[120]⟩, .string ⟨#[112, 58, 120]⟩, .string ⟨#[99, 58, 67, 108, 97, 105, 109]⟩, .string ⟨#[110, 115]⟩, .string ⟨#[110, 115, 58, 112]⟩] 9 (0, 0)

theorem names_at (w : World) (B x : Nat) (hx : x < 8) (h : w.heap[B]? = some namesObj) : ∃ t : ByteArray, w.cell? ⟨B, x, none⟩ = some (.string t) ∧ t.size ≤ 7 := by
  rw [Lib.cell_of_heap h]
  rcases (show x = 0 ∨ x = 1 ∨ x = 2 ∨ x = 3 ∨ x = 4 ∨ x = 5 ∨ x = 6 ∨ x = 7 from by omega) with rfl | rfl | rfl | rfl | rfl | rfl | rfl | rfl
  all_goals exact ⟨_, rfl, by decide⟩

set_option maxHeartbeats 1000000 in
theorem c18 (w0 : World) (a : Option Addr) (len cap b : Nat) (w : World) (hlen : len ≤ 4096) (hcr : CodeRow w0 a len) (hC : Cur w0 a len cap b w) :
    Calls Try.prog 18 #[.pointer (some ⟨b, 0, none⟩)] w fun e w' => ∃ t : ByteArray, e = .returned (.string t) ∧ t.size ≤ 7 ∧ Cur w0 a len cap b w' := by
  have HR : Hid (CodeRow w0 a len) := hcr
  have HC : Hid (Cur w0 a len cap b (w.alloc namesObj)) := hC.alloc _
  have HN : Hid ((w.alloc namesObj).heap[w.heap.size]? = some namesObj) := heap_alloc_new w _
  have hbl : b < w.heap.size := hC.lt
  clear hC hcr
  go_enter Try.func18, Try.ntmps18
  go_wp2_with (go_at_call 21; refine (cBelow 8 w0 a len cap b _ hlen HR.out HC.out (by decide) (by decide)).mono ?_; rintro e w1 ⟨x, rfl, hx, hC1, hG1⟩; obtain ⟨t, ht, hts⟩ := names_at w1 w.heap.size x hx ((hG1.block w.heap.size (by simp) (by simp; omega)).trans HN.out); have hxi : (x : Int) < 10 := by omega)
  go_ret
  exact ⟨t, rfl, hts, hC1⟩

set_option maxHeartbeats 2000000 in
theorem c12 (a : Option Addr) (len cap : Nat) (w : World) (hlen : len ≤ 4096) (hcr : CodeRow w a len) :
    Calls Try.prog 12 #[.slice a len cap] w fun e w' => ∃ t : ByteArray, e = .returned (.string t) ∧ t.size ≤ 11 ∧ Below w.heap.size w w' := by
  have HR : Hid (CodeRow w a len) := hcr
  clear hcr
  go_enter Try.func12, Try.ntmps12
  go_wp2_with fail
  refine (cNew a len cap _ hlen HR.out).mono ?_
  rintro e w1 ⟨rfl, hC1⟩
  go_wp2_with fail
  refine (c18 w a len cap _ _ hlen HR.out hC1).mono ?_
  rintro e w2 ⟨t, rfl, ht, hC2⟩
  clear hC1
  go_wp2_with fail
  refine (cOnce 3 w a len cap _ _ hlen HR.out hC2 (by decide) (by decide)).mono ?_
  rintro e w3 ⟨x3, rfl, hC3, _⟩
  clear hC2
  cases x3
  · go_wp2_with fail
    refine (cOnce 12 w a len cap _ _ hlen HR.out hC3 (by decide) (by decide)).mono ?_
    rintro e w5 ⟨x5, rfl, hC5, _⟩
    cases x5
    · go_wp2
      go_ret
      exact ⟨t, rfl, by omega, hC5.2.1⟩
    · go_wp2_with fail
      refine (cBelow 2 w a len cap _ _ hlen HR.out hC5 (by decide) (by decide)).mono ?_
      rintro e w6 ⟨x6, rfl, hx6, hC6, _⟩
      rcases (show x6 = 0 ∨ x6 = 1 from by omega) with rfl | rfl
      · go_wp2
        go_ret
        exact ⟨_, rfl, by decide, hC6.2.1⟩
      · go_wp2
        go_ret
        exact ⟨_, rfl, by decide, hC6.2.1⟩
  · go_wp2_with fail
    refine (cBend t ⟨#[97, 90, 58, 49]⟩ w a len cap _ _ (by omega) (by decide) (by decide) hlen HR.out hC3).mono ?_
    rintro e w4 ⟨t4, rfl, ht4, hC4, _⟩
    go_wp2_with fail
    refine (cOnce 12 w a len cap _ _ hlen HR.out hC4 (by decide) (by decide)).mono ?_
    rintro e w5 ⟨x5, rfl, hC5, _⟩
    cases x5
    · go_wp2
      go_ret
      exact ⟨t4, rfl, by omega, hC5.2.1⟩
    · go_wp2_with fail
      refine (cBelow 2 w a len cap _ _ hlen HR.out hC5 (by decide) (by decide)).mono ?_
      rintro e w6 ⟨x6, rfl, hx6, hC6, _⟩
      rcases (show x6 = 0 ∨ x6 = 1 from by omega) with rfl | rfl
      · go_wp2
        go_ret
        exact ⟨_, rfl, by decide, hC6.2.1⟩
      · go_wp2
        go_ret
        exact ⟨_, rfl, by decide, hC6.2.1⟩

theorem c7 (a : Option Addr) (len cap : Nat) (w : World) (hlen : len ≤ 4096) (hcr : CodeRow w a len) :
    Calls Try.prog 7 #[.slice a len cap] w fun e w' => ∃ t : ByteArray, e = .returned (.string t) ∧ t.size ≤ 11 ∧ Below w.heap.size w w' := by
  go_enter Try.func7, Try.ntmps7
  go_wp2_with fail
  refine (c12 a len cap _ hlen hcr).mono ?_
  rintro e w1 ⟨t, rfl, ht, hb⟩
  go_wp2
  go_ret
  exact ⟨t, rfl, ht, hb⟩

end Go.Proofs.Ytgonljhpieklmaa
