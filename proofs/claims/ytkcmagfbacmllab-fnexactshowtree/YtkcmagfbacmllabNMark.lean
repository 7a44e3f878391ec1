/- Marks that the exact laws leave in what was answered: a text for a number; marks in a row of attrs, set and held. -/
import Derived.Test.YtkcmagfbacmllabNTok
namespace Go.Proofs.Ytkcmagfbacmllab
open Go.RowKit
set_option linter.unusedVariables false
set_option linter.unusedSimpArgs false

def digB (k : Nat) : UInt8 := UInt8.ofNat (48 + k % 10)

def decB (k : Nat) (out : ByteArray) : ByteArray := if h : k = 0 then out else decB (k / 10) ((⟨#[digB k]⟩ : ByteArray) ++ out)
termination_by k
decreasing_by omega

theorem decB_zero (out : ByteArray) : decB 0 out = out := by unfold decB; simp

theorem decB_step {k : Nat} (h : ¬ k = 0) (out : ByteArray) : decB k out = decB (k / 10) ((⟨#[digB k]⟩ : ByteArray) ++ out) := by rw [decB]; simp [h]

/-- The text of a mark. -/
def markS (k : Nat) : ByteArray := if k = 0 then ⟨#[109, 48]⟩ else (⟨#[109]⟩ : ByteArray) ++ decB k ⟨#[]⟩

theorem decB_size : ∀ (k : Nat) (out : ByteArray), (decB k out).size ≤ k + out.size := by
  intro k
  induction k using Nat.strongRecOn with
  | _ k ih =>
    intro out
    by_cases h : k = 0
    · subst h; rw [decB_zero]; omega
    · rw [decB_step h]
      have := ih (k / 10) (by omega) ((⟨#[digB k]⟩ : ByteArray) ++ out)
      rw [ByteArray.size_append, show (⟨#[digB k]⟩ : ByteArray).size = 1 from rfl] at this
      omega

theorem markS_size (k : Nat) : (markS k).size ≤ k + 2 := by
  unfold markS
  split
  · show 2 ≤ k + 2
    omega
  · rw [ByteArray.size_append, show (⟨#[109]⟩ : ByteArray).size = 1 from rfl]
    have := decB_size k ⟨#[]⟩
    rw [show (⟨#[]⟩ : ByteArray).size = 0 from rfl] at this
    omega

theorem conv1 (W : World) (b : UInt8) : (convert 47 9 (.slice (some ⟨W.heap.size, 0, none⟩) 1 1)).run Try.prog (W.alloc (.cells #[.int .u8 b.toNat] 5)) = .ok (.string ⟨#[b]⟩) (W.alloc (.cells #[.int .u8 b.toNat] 5)) := by
  have hown : (W.alloc (.cells #[.int .u8 b.toNat] 5)).ownsRow 0 5 1 (.slice (some ⟨W.heap.size, 0, none⟩) [b].length 1) [b].length (Lib.byteCells [b]) :=
    ⟨rfl, .inr ⟨W.heap.size, 1, #[.int .u8 b.toNat], rfl, Nat.zero_le _, heap_alloc_new W _, Nat.le_refl _, by decide, rfl, rfl⟩⟩
  exact run_str_own (P := Try.prog) (src := 47) (dst := 9) Try.underlying47 Try.underlying5 Try.underlying9 hown

theorem dig_wrap (k : Nat) : IntKind.u8.wrap (48 + (k : Int) % 10) = ((digB k).toNat : Int) := by
  have e : (digB k).toNat = 48 + k % 10 := by
    unfold digB
    rw [UInt8.toNat_ofNat']
    omega
  rw [e]
  rw [show (48 : Int) + (k : Int) % 10 = ((48 + k % 10 : Nat) : Int) by omega]
  exact IntWalk.u8_in _ (by omega)

set_option maxRecDepth 100000 in
set_option maxHeartbeats 1000000 in
theorem cMarkText (k : Nat) (hk : k ≤ 1000000000) (w : World) :
    Calls Try.prog 35 #[.int .i64 k] w fun e w' => e = .returned (.string (markS k)) ∧ Below w.heap.size w w' := by
  by_cases h0 : k = 0
  · subst h0
    rw [show markS 0 = ⟨#[109, 48]⟩ from rfl]
    go_enter Try.func35, Try.ntmps35
    go_wp2
    go_ret
    exact ⟨rfl, Below.refl _ _⟩
  · have hd : decide ((k : Int) ≤ 0) = false := by simp; omega
    obtain ⟨V, hV⟩ : ∃ V, markS k = V := ⟨_, rfl⟩
    have HV := hid (show (⟨#[109]⟩ : ByteArray) ++ decB k ⟨#[]⟩ = V by rw [← hV]; unfold markS; rw [if_neg h0])
    rw [hV]
    clear hV
    go_enter Try.func35, Try.ntmps35
    go_wp2_with fail
    clear hd h0
    go_loopw [0, 3] (fun x y wr => ∃ (m : Nat) (out : ByteArray), x = .int .i64 (m : Int) ∧ m ≤ 1000000000 ∧ y = .string out ∧ out.size + m ≤ 1000000000 ∧ Hid (decB m out = decB k ⟨#[]⟩) ∧ Hid (Below w.heap.size w wr)) (fun x _ _ => (intOf x).toNat)
    case atStart => exact ⟨k, ⟨#[]⟩, rfl, hk, rfl, by show 0 + k ≤ 1000000000; omega, rfl, Below.refl _ _⟩
    case round =>
      obtain ⟨m, out, rfl, hm, rfl, hs, HD, HB⟩ := hrel
      by_cases hz : m = 0
      · subst hz
        have HW := hid (show (⟨#[109]⟩ : ByteArray) ++ out = V by rw [← HV.out, ← HD.out, decB_zero])
        go_wp2_with fail
        go_ret
        exact ⟨by rw [← HW.out]; rfl, HB.out⟩
      · have hp : decide ((0 : Int) < (m : Int)) = true := by simp; omega
        have hd := dig_wrap m
        have hc := conv1 wr (digB m)
        have HN := hid (show decB (m / 10) ((⟨#[digB m]⟩ : ByteArray) ++ out) = decB k ⟨#[]⟩ by rw [← decB_step hz]; exact HD.out)
        have hq : (m : Int).tdiv 10 = ((m / 10 : Nat) : Int) := (Int.ofNat_tdiv m 10).symm
        have hr : (m : Int).tmod 10 = (m : Int) % 10 := Int.tmod_eq_emod_of_nonneg (by omega)
        generalize digB m = D at *
        go_wp2_with fail
        go_roundw
        case rel => exact ⟨m / 10, (⟨#[D]⟩ : ByteArray) ++ out, by first | rfl | rw [← hq] | simp, by omega, rfl, by rw [ByteArray.size_append, show (⟨#[D]⟩ : ByteArray).size = 1 from rfl]; omega, HN.out, HB.out.alloc HB.out.size _⟩
        case measure => simp [intOf]; omega

end Go.Proofs.Ytkcmagfbacmllab
