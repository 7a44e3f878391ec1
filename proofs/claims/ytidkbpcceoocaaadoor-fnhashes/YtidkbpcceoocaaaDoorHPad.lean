/- Contracts of the numbers that a text is written with: the specification's numeral, with noughts ahead; the program's. -/
import Derived.Test.YtidkbpcceoocaaaDoorRows
import Derived.Test.YtidkbpcceoocaaaDoorKit
import Derived.Test.YtidkbpcceoocaaaDoorShelf
import Derived.Lib.Repeat
import Derived.WalkKit
namespace Go.Proofs.YtidkbpcceoocaaaDoor
open Go.RowKit
set_option linter.unusedVariables false
set_option linter.unusedSimpArgs false

def dgt (k : Nat) : UInt8 := UInt8.ofNat (48 + k)

theorem dgt_toNat (k : Nat) (h : k < 10) : (dgt k).toNat = 48 + k := by
  unfold dgt
  rw [UInt8.toNat_ofNat']
  omega

/-- The numeral of n with noughts ahead up to the width. -/
def padL (n wd : Nat) : List UInt8 := List.replicate (wd - (Lib.decDigits n).length) 48 ++ Lib.decDigits n

theorem dec_small {n : Nat} (h : n < 10) : Lib.decDigits n = [dgt n] := Lib.decDigits_one h

theorem dec_big {n : Nat} (h : ¬ n < 10) : Lib.decDigits n = Lib.decDigits (n / 10) ++ [dgt (n % 10)] := by
  rw [Lib.decDigits, dif_neg h]
  rfl

theorem dec_ne (n : Nat) : Lib.decDigits n ≠ [] := by
  intro h
  have := Lib.decDigits_length n
  rw [h] at this
  have := Lib.nDigits_pos n
  simp at *
  omega

theorem dec_le (n : Nat) (h : n < 9223372036854775808) : (Lib.decDigits n).length ≤ 19 := by
  rw [Lib.decDigits_length]
  have key : ∀ (k : Nat) (u : Nat), u < 10 ^ (k + 1) → Lib.nDigits u ≤ k + 1 := by
    intro k
    induction k with
    | zero => intro u hu; rw [Lib.nDigits_small (by simpa using hu)]; exact Nat.le_refl _
    | succ k ih =>
      intro u hu
      by_cases h : u < 10
      · rw [Lib.nDigits_small h]; omega
      · rw [Lib.nDigits_big h]
        have := ih (u / 10) (by rw [Nat.pow_succ] at hu; omega)
        omega
  exact key 18 n (by omega)

/-- What is left to write of N, when l has been written and n is left. -/
def Writ (N n : Nat) (l : List UInt8) : Prop := (l = [] ∧ n = N) ∨ (l ≠ [] ∧ (if n = 0 then [] else Lib.decDigits n) ++ l = Lib.decDigits N)

theorem Writ.step {N n : Nat} {l : List UInt8} (h : Writ N n l) (hgo : l = [] ∨ n ≠ 0) : Writ N (n / 10) (dgt (n % 10) :: l) := by
  refine .inr ⟨by simp, ?_⟩
  have key : (if n / 10 = 0 then [] else Lib.decDigits (n / 10)) ++ dgt (n % 10) :: l = Lib.decDigits n ++ l := by
    by_cases h1 : n < 10
    · rw [if_pos (by omega), dec_small h1, show n % 10 = n by omega]
      rfl
    · rw [if_neg (by omega), dec_big h1]
      simp
  rw [key]
  rcases h with ⟨rfl, rfl⟩ | ⟨h1, h2⟩
  · simp
  · rcases hgo with h | h
    · exact absurd h h1
    · rw [if_neg h] at h2
      exact h2

theorem Writ.done {N : Nat} {l : List UInt8} (h : Writ N 0 l) (hl : l ≠ []) : l = Lib.decDigits N := by
  rcases h with ⟨h, _⟩ | ⟨_, h⟩
  · exact absurd h hl
  · simpa using h

theorem Writ.len {N n : Nat} {l : List UInt8} (h : Writ N n l) : l.length ≤ (Lib.decDigits N).length := by
  rcases h with ⟨rfl, _⟩ | ⟨_, h⟩
  · simp
  · rw [← h]; simp

theorem conv1 (W : World) (b : UInt8) : (convert 22 9 (.slice (some ⟨W.heap.size, 0, none⟩) 1 1)).run Tryd.prog (W.alloc (.cells #[.int .u8 b.toNat] 5)) = .ok (.string ⟨#[b]⟩) (W.alloc (.cells #[.int .u8 b.toNat] 5)) := by
  have hown : (W.alloc (.cells #[.int .u8 b.toNat] 5)).ownsRow 0 5 1 (.slice (some ⟨W.heap.size, 0, none⟩) [b].length 1) [b].length (Lib.byteCells [b]) :=
    ⟨rfl, .inr ⟨W.heap.size, 1, #[.int .u8 b.toNat], rfl, Nat.zero_le _, heap_alloc_new W _, Nat.le_refl _, by decide, rfl, rfl⟩⟩
  exact run_str_own (P := Tryd.prog) (src := 22) (dst := 9) Tryd.underlying22 Tryd.underlying5 Tryd.underlying9 hown

theorem strEmpty (b : ByteArray) (h : b.data.toList = []) : b = ⟨#[]⟩ := by
  apply ByteArray.ext
  apply Array.toList_inj.1
  exact h

theorem u8_in (k : Nat) : IntKind.u8.wrap (48 + (k : Int) % 10) = ((48 + k % 10 : Nat) : Int) := by
  rw [IntWalk.u8_in _ (by omega)]
  omega

theorem str_ne (b : ByteArray) (h : ¬ b.data.toList = []) : (b.toList == []) = false ∧ (b.toList == (ByteArray.mk #[]).toList) = false := by
  have e : b.toList = b.data.toList := ByteArray.toList_eq b
  have e2 : (ByteArray.mk #[]).toList = [] := ByteArray.toList_eq _
  rw [e2, e]
  have : (b.data.toList == []) = false := by
    rw [beq_eq_false_iff_ne]
    exact h
  exact ⟨this, this⟩

def measI (n s : Value) : Nat := 2 * (intOf n).toNat + match s with
  | .string b => if b.data.toList = [] then 1 else 0
  | _ => 0

theorem cons_str (D : UInt8) (b : ByteArray) : ((⟨#[D]⟩ : ByteArray) ++ b).data.toList = D :: b.data.toList := by
  simp [ByteArray.data_append]

theorem measI_lt (k : Nat) (D : UInt8) (b : ByteArray) (h : b.data.toList = [] ∨ k ≠ 0) : measI (.int .i64 ((k : Int) / 10)) (.string (⟨#[D]⟩ ++ b)) < measI (.int .i64 k) (.string b) := by
  unfold measI
  simp only [intOf, cons_str]
  have e : ((k : Int) / 10).toNat = k / 10 := by omega
  rw [e]
  by_cases hb : b.data.toList = []
  · simp [hb]; omega
  · rcases h with h | h
    · exact absurd h hb
    · simp [hb]; omega

set_option maxHeartbeats 2000000 in
theorem cInt (N : Nat) (w : World) (hN : N < 9223372036854775808) :
    Calls Tryd.prog 40 #[.int .i64 N] w fun e w' => e = .returned (.string ⟨(Lib.decDigits N).toArray⟩) ∧ Below w.heap.size w w' := by
  go_enter Tryd.func40, Tryd.ntmps40
  go_wp2
  go_loopw [0, 3] (fun n s wr => ∃ (k : Nat) (b : ByteArray), n = .int .i64 (k : Int) ∧ k ≤ N ∧ s = .string b ∧ Writ N k b.data.toList ∧ Below w.heap.size w wr) (fun n s _ => measI n s)
  case atStart => exact ⟨N, _, rfl, Nat.le_refl _, rfl, .inl ⟨rfl, rfl⟩, Below.refl _ _⟩
  case round =>
    obtain ⟨k, b, rfl, hk, rfl, hW, hB⟩ := hrel
    have HW : Hid (Writ N k b.data.toList) := hW
    clear hW
    have hsz := hB.size
    obtain ⟨D, hD⟩ : ∃ D : UInt8, dgt (k % 10) = D := ⟨_, rfl⟩
    have hcv := fun W => conv1 W D
    have hDn : D.toNat = 48 + k % 10 := by rw [← hD]; exact dgt_toNat _ (by omega)
    have e1 : IntKind.u8.wrap (48 + (k : Int) % 10) = (D.toNat : Int) := by rw [hDn]; exact u8_in k
    have e2 : decide ((k : Int) % 10 < 0) = false := by simp; omega
    have HD : Hid (dgt (k % 10) = D) := hD
    clear hD hDn
    by_cases hb : b.data.toList = []
    · obtain rfl := strEmpty b hb
      clear hb
      go_wp2
      go_roundw
      case rel => exact ⟨k / 10, _, by rfl, by omega, rfl, by rw [cons_str, ← HD.out]; exact HW.out.step (.inl rfl), hB.alloc hsz _⟩
      case measure => exact measI_lt _ _ _ (.inl rfl)
    · obtain ⟨hbe, hbf⟩ := str_ne b hb
      have hbs : b.size ≤ 19 := by
        have h1 := HW.out.len
        have h2 := dec_le N hN
        have h3 : b.size = b.data.toList.length := by rw [Array.length_toList]; rfl
        omega
      have HB : Hid (¬ b.data.toList = []) := hb
      clear hb
      by_cases hk0 : k = 0
      · subst hk0
        clear e1 e2 hcv HD
        go_wp2
        go_ret
        have := HW.out.done HB.out
        exact ⟨by rw [← this]; rfl, hB⟩
      · have hkn : ¬ (k : Int) = 0 := by omega
        have HK : Hid (¬ k = 0) := hk0
        clear hk0
        go_wp2
        go_roundw
        case rel => exact ⟨k / 10, _, by rfl, by omega, rfl, by rw [cons_str, ← HD.out]; exact HW.out.step (.inr HK.out), hB.alloc hsz _⟩
        case measure => exact measI_lt _ _ _ (.inr HK.out)

theorem nought_str (l : List UInt8) (j : Nat) : (⟨#[48]⟩ : ByteArray) ++ ⟨(List.replicate j 48 ++ l).toArray⟩ = ⟨(List.replicate (j + 1) 48 ++ l).toArray⟩ := by
  apply ByteArray.ext
  apply Array.toList_inj.1
  simp [ByteArray.data_append, List.replicate_succ]

def sizeV (s : Value) : Nat := match s with
  | .string b => b.size
  | _ => 0

theorem size_mk (l : List UInt8) : (⟨l.toArray⟩ : ByteArray).size = l.length := by
  show l.toArray.size = _
  simp

set_option maxHeartbeats 2000000 in
theorem cPadS (n wd : Nat) (w : World) (hn : n < 9223372036854775808) (hw : wd ≤ 100) :
    Calls Tryd.prog 33 #[.int .i64 n, .int .i64 wd] w fun e w' => e = .returned (.string ⟨(padL n wd).toArray⟩) ∧ Below w.heap.size w w' := by
  have hl := dec_le n hn
  unfold padL
  obtain ⟨l, hle⟩ : ∃ l, Lib.decDigits n = l := ⟨_, rfl⟩
  have C := cInt n w hn
  rw [hle] at C hl ⊢
  clear hle hn
  go_enter Tryd.func33, Tryd.ntmps33
  go_wp2_with fail
  refine C.mono ?_
  rintro e w1 ⟨rfl, hb1⟩
  go_wp2_with fail
  go_loop [5] (fun s => ∃ j : Nat, j ≤ wd - l.length ∧ s = .string ⟨(List.replicate j 48 ++ l).toArray⟩) (fun s => wd - sizeV s)
  case atStart => exact ⟨0, Nat.zero_le _, rfl⟩
  case round =>
    obtain ⟨j, hj, rfl⟩ := hrel
    obtain ⟨b, hbe⟩ : ∃ b : ByteArray, (⟨(List.replicate j 48 ++ l).toArray⟩ : ByteArray) = b := ⟨_, rfl⟩
    have hs : b.size = j + l.length := by rw [← hbe, size_mk]; simp
    rw [hbe]
    by_cases hlt : j < wd - l.length
    · have d1 : b.size < wd := by omega
      have hbs : b.size ≤ 119 := by omega
      have HE : Hid ((⟨(List.replicate j 48 ++ l).toArray⟩ : ByteArray) = b) := hbe
      have HS : Hid (b.size = j + l.length) := hs
      clear hbe hs
      go_wp2
      go_round
      case rel => exact ⟨j + 1, by omega, by rw [← HE.out, nought_str]⟩
      case measure =>
        have e : ((⟨#[48]⟩ : ByteArray) ++ b).size = b.size + 1 := by rw [ByteArray.size_append]; exact Nat.add_comm _ _
        have := HS.out
        simp only [sizeV, e]
        omega
    · have d1 : ¬ b.size < wd := by omega
      have ej : j = wd - l.length := by omega
      subst ej
      clear hs
      go_wp2
      go_ret
      exact ⟨rfl, hb1⟩

end Go.Proofs.YtidkbpcceoocaaaDoor
