/- Contracts of Public, KeyOk, Locked and Opened, of the program. -/
import Derived.Test.YtfglgadmcgkjkabKImplB
namespace Go.Proofs.Ytfglgadmcgkjkab
open Go.RowKit
set_option linter.unusedVariables false
set_option linter.unusedSimpArgs false

/-- What Public tells: the modulus, and the power. -/
def pubN (n e : Int) : Int := if opB n e = true then n else 0

def pubE (n e : Int) : Int := if opB n e = true then e else 0

/-- What Locked tells. -/
noncomputable def lockI (n e d h : Int) : Int := if lkB n e d = true then powI h d n else -1

/-- What Opened tells. -/
noncomputable def openI (n e d v : Int) : Int := if okB n e d = true then powI v e n else -1

theorem bb {w a b : World} (h : Below w.heap.size w a) (k : Below a.heap.size a b) : Below w.heap.size w b := h.trans (k.mono h.size)

theorem cKeyOkI (n e d : Int) (w : World) :
    Calls Try.prog 6 #[.agg #[.int .i64 n, .int .i64 e, .int .i64 d]] w fun x w' => x = .returned (.bool (okB n e d)) ∧ Below w.heap.size w w' := by
  have CW := fun w => cWholeOf n e d w
  have CK := fun w => cOk n e d w
  generalize okB n e d = B at *
  go_enter Try.func6, Try.ntmps6
  go_wp2_with fail
  refine (CW _).mono ?_
  rintro x w1 ⟨rfl, hb⟩
  have HB : Hid (Below w.heap.size w w1) := ((Below.refl _ _).alloc (Nat.le_refl _) _).trans (hb.mono (by simp))
  go_wp2_with fail
  refine (CK _).mono ?_
  rintro x w2 ⟨rfl, hb2⟩
  go_wp2_with fail
  go_ret
  exact ⟨rfl, bb HB.out hb2⟩

end Go.Proofs.Ytfglgadmcgkjkab
