/- Contracts of the draws DrawEndOf, DrawKidsOf: a tree, and a place in it or beside it. -/
import Derived.Test.YtkcmagfbacmllaaM20
import Derived.Test.YtkcmagfbacmllaaM24
namespace Go.Proofs.Ytkcmagfbacmllaa
open Go.RowKit
set_option linter.unusedVariables false
set_option linter.unusedSimpArgs false

set_option maxHeartbeats 1000000 in
theorem cDrawEndOf (a : Option Addr) (len cap : Nat) (w : World) (hlen : len ≤ 4096) (hcr : CodeRow w a len) :
    Calls Try.prog 35 #[.slice a len cap] w (DrawnAt w) := by
  have HR := hid hcr
  clear hcr
  go_enter Try.func35, Try.ntmps35
  go_wp2_with fail
  refine (cNew a len cap _ hlen HR.out).mono ?_
  rintro e w1 ⟨rfl, hC1⟩
  have HC1 := hid hC1
  clear hC1
  go_wp2_with fail
  refine (cDrawAny w a len cap _ _ hlen HR.out HC1.out).mono ?_
  rintro e w2 ⟨a', c', ts, rfl, hrow, hn, hz, hC2, _⟩
  have HC2 := hid hC2
  have HT := hid hrow
  have HN := hid hn
  have HZ := hid hz
  have CA := hid (cDrawAt a' ts.length c' hn w a len cap _ w2 hlen HR.out hC2)
  clear hrow hn hz hC2
  go_wp2_with fail
  refine CA.out.mono ?_
  rintro e w3 ⟨x, rfl, hx1, hx2, hC3, hG3⟩
  have HT3 := hid (tk_keep HT.out HC2.out hG3)
  have HB := hid hC3.2.1
  clear hC3 hG3 CA
  go_wp2_with fail
  go_ret2
  refine ⟨a', c', ts, x, rfl, HT3.out, by have := HN.out; omega, fun t ht => ?_, ?_, HB.out⟩
  · obtain ⟨q1, q2, q3, q4⟩ := HZ.out t ht
    exact ⟨by omega, by omega, fun y hy => by have := q3 y hy; omega, by omega⟩
  · have h : (Lit.int .i64 x).wf = true := by
      have h1 : IntKind.i64.min = -9223372036854775808 := by decide
      have h2 : IntKind.i64.max = 9223372036854775807 := by decide
      simp [Lit.wf, h1, h2]
      omega
    exact h

set_option maxHeartbeats 1000000 in
theorem cDrawKidsOf (a : Option Addr) (len cap : Nat) (w : World) (hlen : len ≤ 4096) (hcr : CodeRow w a len) :
    Calls Try.prog 9 #[.slice a len cap] w (DrawnAt w) := by
  have C := hid (cDrawEndOf a len cap w hlen hcr)
  clear hcr
  go_enter Try.func9, Try.ntmps9
  go_wp2_with fail
  refine C.out.mono ?_
  rintro e w1 ⟨a', c', ts, x, rfl, h1, h2, h3, h4, h5⟩
  have H := hid (And.intro h1 (And.intro h2 (And.intro h3 (And.intro h4 h5))))
  clear h1 h2 h3 h4 h5 C
  go_wp2_with fail
  go_ret2
  exact ⟨a', c', ts, x, rfl, H.out.1, H.out.2.1, H.out.2.2.1, H.out.2.2.2.1, H.out.2.2.2.2⟩

end Go.Proofs.Ytkcmagfbacmllaa
