/- Marks that the exact laws leave in what was answered: a text for a number; marks in a row of attrs, set and held. -/
import Derived.Test.YtlghhemmmjahnaaNTok
namespace Go.Proofs.Ytlghhemmmjahnaa
open Go.RowKit
set_option linter.unusedVariables false
set_option linter.unusedSimpArgs false

def digB (k : Nat) : UInt8 := UInt8.ofNat (48 + k % 10)

def decB (k : Nat) (out : ByteArray) : ByteArray := if h : k = 0 then out else decB (k / 10) ((⟨#[digB k]⟩ : ByteArray) ++ out)
termination_by k
decreasing_by omega

theorem decB_zero (out : ByteArray) : decB 0 out = out := by unfold decB; simp

theorem decB_step {k : Nat} (h : ¬ k = 0) (out : ByteArray) : decB k out = decB (k / 10) ((⟨#[digB k]⟩ : ByteArray) ++ out) := by rw [decB]; simp [h]

/-- The text of a mark. -/
def markS (k : Nat) : ByteArray := if k = 0 then ⟨#[109, 48]⟩ else (⟨#[109]⟩ : ByteArray) ++ decB k ⟨#[]⟩

theorem decB_size : ∀ (k : Nat) (out : ByteArray), (decB k out).size ≤ k + out.size := by
  intro k
  induction k using Nat.strongRecOn with
  | _ k ih =>
    intro out
    by_cases h : k = 0
    · subst h; rw [decB_zero]; omega
    · rw [decB_step h]
      have := ih (k / 10) (by omega) ((⟨#[digB k]⟩ : ByteArray) ++ out)
      rw [ByteArray.size_append, show (⟨#[digB k]⟩ : ByteArray).size = 1 from rfl] at this
      omega

theorem markS_size (k : Nat) : (markS k).size ≤ k + 2 := by
  unfold markS
  split
  · show 2 ≤ k + 2
    omega
  · rw [ByteArray.size_append, show (⟨#[109]⟩ : ByteArray).size = 1 from rfl]
    have := decB_size k ⟨#[]⟩
    rw [show (⟨#[]⟩ : ByteArray).size = 0 from rfl] at this
    omega

theorem conv1 (W : World) (b : UInt8) : (convert 22 9 (.slice (some ⟨W.heap.size, 0, none⟩) 1 1)).run Try.prog (W.alloc (.cells #[.int .u8 b.toNat] 5)) = .ok (.string ⟨#[b]⟩) (W.alloc (.cells #[.int .u8 b.toNat] 5)) := by
  have hown : (W.alloc (.cells #[.int .u8 b.toNat] 5)).ownsRow 0 5 1 (.slice (some ⟨W.heap.size, 0, none⟩) [b].length 1) [b].length (Lib.byteCells [b]) :=
    ⟨rfl, .inr ⟨W.heap.size, 1, #[.int .u8 b.toNat], rfl, Nat.zero_le _, heap_alloc_new W _, Nat.le_refl _, by decide, rfl, rfl⟩⟩
  exact run_str_own (P := Try.prog) (src := 22) (dst := 9) Try.underlying22 Try.underlying5 Try.underlying9 hown

theorem dig_wrap (k : Nat) : IntKind.u8.wrap (48 + (k : Int) % 10) = ((digB k).toNat : Int) := by
  have e : (digB k).toNat = 48 + k % 10 := by
    unfold digB
    rw [UInt8.toNat_ofNat']
    omega
  rw [e]
  rw [show (48 : Int) + (k : Int) % 10 = ((48 + k % 10 : Nat) : Int) by omega]
  exact IntWalk.u8_in _ (by omega)

end Go.Proofs.Ytlghhemmmjahnaa
