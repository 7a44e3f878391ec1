/- Contracts of isText, tokenOf and besideText of the program. Contract of TreeOk of the program. Contract of nodeThere of the program. Declarations in the program: contracts of the signs of a meaning, of allSigns over them, declaredBy, meaningOk, declarationsOk. -/
import Derived.Test.YtemapjlogfffpaaM11
import Derived.Test.YtemapjlogfffpaaM1
import Derived.Test.YtemapjlogfffpaaM7
import Derived.Test.YtemapjlogfffpaaM8
import Derived.Deep.CutRange
namespace Go.Proofs.Ytemapjlogfffpaa
open Go.RowKit
set_option linter.unusedVariables false
set_option linter.unusedSimpArgs false

theorem heap_two (w : World) (o1 o2 : Obj) : ((w.alloc o1).alloc o2).heap[w.heap.size + 1]? = some o2 := by
  have h := heap_alloc_new (w.alloc o1) o2
  rw [show (w.alloc o1).heap.size = w.heap.size + 1 by simp] at h
  exact h

end Go.Proofs.Ytemapjlogfffpaa

namespace Go.Proofs.Ytemapjlogfffpaa
open Go.RowKit
set_option linter.unusedVariables false
set_option linter.unusedSimpArgs false

end Go.Proofs.Ytemapjlogfffpaa

namespace Go.Proofs.Ytemapjlogfffpaa
open Go.RowKit
set_option linter.unusedVariables false
set_option linter.unusedSimpArgs false

end Go.Proofs.Ytemapjlogfffpaa

namespace Go.Proofs.Ytemapjlogfffpaa
open Go.RowKit
set_option linter.unusedVariables false
set_option linter.unusedSimpArgs false

/-- A sign that may stand in a meaning. -/
def inMB (c : Int) : Bool := (decide (97 ≤ c) && decide (c ≤ 122)) || (decide (48 ≤ c) && decide (c ≤ 57)) || decide (c = 47) || decide (c = 46)

theorem inMB_all : ∀ n : Fin 256, inB sgnS (UInt8.ofNat n.val) = inMB (n.val : Int) := by decide +kernel

theorem inMB_is (c : UInt8) : inB sgnS c = inMB c.toNat := by
  have h := inMB_all ⟨c.toNat, c.toNat_lt⟩
  have e : UInt8.ofNat c.toNat = c := by simp
  rw [e] at h
  exact h

theorem cDigit (c : Int) (w : World) (h0 : 0 ≤ c) (h1 : c ≤ 255) :
    Calls Try.prog 32 #[.int .u8 c] w fun e w' => e = .returned (.bool (decide (48 ≤ c) && decide (c ≤ 57))) ∧ w' = w := by
  go_enter Try.func32, Try.ntmps32
  go_wp2
  all_goals go_ret
  all_goals exact ⟨ret_bool (by rw [Bool.eq_iff_iff]; simp; try omega), rfl⟩

/-- All signs may stand in a meaning. -/
def allM (l : List UInt8) : Bool := l.all fun c => inMB c.toNat

theorem allM_is (l : List UInt8) : (l.all fun c => sgnS.data.toList.any fun d => decide (d = c)) = allM l := by
  unfold allM
  congr 1
  funext c
  exact inMB_is c

theorem allM_snoc (s : ByteArray) (k : Nat) (h : k < s.size) : allM (s.data.toList.take (k + 1)) = (allM (s.data.toList.take k) && inMB s[k].toNat) := by
  unfold allM
  rw [take_snoc s k h, List.all_append]
  simp

theorem allM_no (s : ByteArray) (k : Nat) (h : k < s.size) (hc : inMB s[k].toNat = false) : allM s.data.toList = false := by
  cases hA : allM s.data.toList with
  | false => rfl
  | true =>
    have := List.all_eq_true.1 hA s[k] (List.getElem_mem _)
    rw [hc] at this
    cases this

/-- What a declaration of this prefix says is right. -/
def saysB (p v : ByteArray) : Bool := ofB sgnS 20 v && (decide (p.size = 0) || !decide (v.size = 0))

theorem declF_sz {x : At} (hz : x.name.size ≤ 1048576) {p : ByteArray} (h : declF x = some p) : p.size ≤ 1048576 := by
  unfold declF at h
  split at h
  · cases h; exact Nat.zero_le _
  · split at h
    · cases h; exact locS_sz hz
    · cases h

end Go.Proofs.Ytemapjlogfffpaa
