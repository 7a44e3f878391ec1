/- Contracts of the numbers that a text is written with: the specification's numeral, with noughts ahead; the program's. Contract of the program's numeral with noughts ahead, over the library's FormatInt and Repeat. Contracts of TimeText, of the program and of the specification: one text. -/
import Derived.Test.YtknpgdglabibiaaGreatDoorRows
import Derived.Test.YtknpgdglabibiaaGreatDoorM1
import Derived.Test.YtknpgdglabibiaaGreatDoorM17
import Derived.Test.YtknpgdglabibiaaGreatDoorM18
import Derived.Lib.Repeat
import Derived.WalkKit
import Derived.Lib.AppendIntMem
namespace Go.Proofs.YtknpgdglabibiaaGreatDoor
open Go.RowKit
set_option linter.unusedVariables false
set_option linter.unusedSimpArgs false

/-- The numeral of n with noughts ahead up to the width. -/
def padL (n wd : Nat) : List UInt8 := List.replicate (wd - (Lib.decDigits n).length) 48 ++ Lib.decDigits n

theorem dec_small {n : Nat} (h : n < 10) : Lib.decDigits n = [dgt n] := Lib.decDigits_one h

theorem dec_big {n : Nat} (h : ¬ n < 10) : Lib.decDigits n = Lib.decDigits (n / 10) ++ [dgt (n % 10)] := by
  rw [Lib.decDigits, dif_neg h]
  rfl

theorem padL_two {n : Nat} (h : n < 100) : padL n 2 = two n := by
  unfold padL two
  by_cases h1 : n < 10
  · rw [dec_small h1, show n / 10 = 0 by omega, show n % 10 = n by omega]
    rfl
  · rw [dec_big h1, dec_small (by omega : n / 10 < 10)]
    rfl

theorem padL_four {k : Nat} (h : k < 100) : padL (2000 + k) 4 = [50, 48] ++ two k := by
  unfold padL two
  rw [dec_big (by omega), dec_big (by omega : ¬ (2000 + k) / 10 < 10), dec_big (by omega : ¬ (2000 + k) / 10 / 10 < 10), dec_small (by omega : (2000 + k) / 10 / 10 / 10 < 10)]
  rw [show (2000 + k) / 10 / 10 / 10 = 2 by omega, show (2000 + k) / 10 / 10 % 10 = 0 by omega, show (2000 + k) / 10 % 10 = k / 10 by omega, show (2000 + k) % 10 = k % 10 by omega]
  rfl

theorem dec_ne (n : Nat) : Lib.decDigits n ≠ [] := by
  intro h
  have := Lib.decDigits_length n
  rw [h] at this
  have := Lib.nDigits_pos n
  simp at *
  omega

theorem dec_le (n : Nat) (h : n < 9223372036854775808) : (Lib.decDigits n).length ≤ 19 := by
  rw [Lib.decDigits_length]
  have key : ∀ (k : Nat) (u : Nat), u < 10 ^ (k + 1) → Lib.nDigits u ≤ k + 1 := by
    intro k
    induction k with
    | zero => intro u hu; rw [Lib.nDigits_small (by simpa using hu)]; exact Nat.le_refl _
    | succ k ih =>
      intro u hu
      by_cases h : u < 10
      · rw [Lib.nDigits_small h]; omega
      · rw [Lib.nDigits_big h]
        have := ih (u / 10) (by rw [Nat.pow_succ] at hu; omega)
        omega
  exact key 18 n (by omega)

/-- What is left to write of N, when l has been written and n is left. -/
def Writ (N n : Nat) (l : List UInt8) : Prop := (l = [] ∧ n = N) ∨ (l ≠ [] ∧ (if n = 0 then [] else Lib.decDigits n) ++ l = Lib.decDigits N)

theorem Writ.step {N n : Nat} {l : List UInt8} (h : Writ N n l) (hgo : l = [] ∨ n ≠ 0) : Writ N (n / 10) (dgt (n % 10) :: l) := by
  refine .inr ⟨by simp, ?_⟩
  have key : (if n / 10 = 0 then [] else Lib.decDigits (n / 10)) ++ dgt (n % 10) :: l = Lib.decDigits n ++ l := by
    by_cases h1 : n < 10
    · rw [if_pos (by omega), dec_small h1, show n % 10 = n by omega]
      rfl
    · rw [if_neg (by omega), dec_big h1]
      simp
  rw [key]
  rcases h with ⟨rfl, rfl⟩ | ⟨h1, h2⟩
  · simp
  · rcases hgo with h | h
    · exact absurd h h1
    · rw [if_neg h] at h2
      exact h2

theorem Writ.done {N : Nat} {l : List UInt8} (h : Writ N 0 l) (hl : l ≠ []) : l = Lib.decDigits N := by
  rcases h with ⟨h, _⟩ | ⟨_, h⟩
  · exact absurd h hl
  · simpa using h

theorem Writ.len {N n : Nat} {l : List UInt8} (h : Writ N n l) : l.length ≤ (Lib.decDigits N).length := by
  rcases h with ⟨rfl, _⟩ | ⟨_, h⟩
  · simp
  · rw [← h]; simp

theorem t_conv1 (W : World) (b : UInt8) : (convert 94 9 (.slice (some ⟨W.heap.size, 0, none⟩) 1 1)).run Tryz.prog (W.alloc (.cells #[.int .u8 b.toNat] 5)) = .ok (.string ⟨#[b]⟩) (W.alloc (.cells #[.int .u8 b.toNat] 5)) := by
  have hown : (W.alloc (.cells #[.int .u8 b.toNat] 5)).ownsRow 0 5 1 (.slice (some ⟨W.heap.size, 0, none⟩) [b].length 1) [b].length (Lib.byteCells [b]) :=
    ⟨rfl, .inr ⟨W.heap.size, 1, #[.int .u8 b.toNat], rfl, Nat.zero_le _, heap_alloc_new W _, Nat.le_refl _, by decide, rfl, rfl⟩⟩
  exact run_str_own (P := Tryz.prog) (src := 94) (dst := 9) Tryz.underlying94 Tryz.underlying5 Tryz.underlying9 hown

theorem strEmpty (b : ByteArray) (h : b.data.toList = []) : b = ⟨#[]⟩ := by
  apply ByteArray.ext
  apply Array.toList_inj.1
  exact h

theorem u8_in (k : Nat) : IntKind.u8.wrap (48 + (k : Int) % 10) = ((48 + k % 10 : Nat) : Int) := by
  rw [IntWalk.u8_in _ (by omega)]
  omega

theorem str_ne (b : ByteArray) (h : ¬ b.data.toList = []) : (b.toList == []) = false ∧ (b.toList == (ByteArray.mk #[]).toList) = false := by
  have e : b.toList = b.data.toList := ByteArray.toList_eq b
  have e2 : (ByteArray.mk #[]).toList = [] := ByteArray.toList_eq _
  rw [e2, e]
  have : (b.data.toList == []) = false := by
    rw [beq_eq_false_iff_ne]
    exact h
  exact ⟨this, this⟩

def measI (n s : Value) : Nat := 2 * (intOf n).toNat + match s with
  | .string b => if b.data.toList = [] then 1 else 0
  | _ => 0

theorem cons_str (D : UInt8) (b : ByteArray) : ((⟨#[D]⟩ : ByteArray) ++ b).data.toList = D :: b.data.toList := by
  simp [ByteArray.data_append]

theorem measI_lt (k : Nat) (D : UInt8) (b : ByteArray) (h : b.data.toList = [] ∨ k ≠ 0) : measI (.int .i64 ((k : Int) / 10)) (.string (⟨#[D]⟩ ++ b)) < measI (.int .i64 k) (.string b) := by
  unfold measI
  simp only [intOf, cons_str]
  have e : ((k : Int) / 10).toNat = k / 10 := by omega
  rw [e]
  by_cases hb : b.data.toList = []
  · simp [hb]; omega
  · rcases h with h | h
    · exact absurd h hb
    · simp [hb]; omega

set_option maxHeartbeats 2000000 in
theorem cInt (N : Nat) (w : World) (hN : N < 9223372036854775808) :
    Calls Tryz.prog 139 #[.int .i64 N] w fun e w' => e = .returned (.string ⟨(Lib.decDigits N).toArray⟩) ∧ Below w.heap.size w w' := by
  go_enter Tryz.func139, Tryz.ntmps139
  go_wp2
  go_loopw [0, 3] (fun n s wr => ∃ (k : Nat) (b : ByteArray), n = .int .i64 (k : Int) ∧ k ≤ N ∧ s = .string b ∧ Writ N k b.data.toList ∧ Below w.heap.size w wr) (fun n s _ => measI n s)
  case atStart => exact ⟨N, _, rfl, Nat.le_refl _, rfl, .inl ⟨rfl, rfl⟩, Below.refl _ _⟩
  case round =>
    obtain ⟨k, b, rfl, hk, rfl, hW, hB⟩ := hrel
    have HW : Hid (Writ N k b.data.toList) := hW
    clear hW
    have hsz := hB.size
    obtain ⟨D, hD⟩ : ∃ D : UInt8, dgt (k % 10) = D := ⟨_, rfl⟩
    have hcv := fun W => t_conv1 W D
    have hDn : D.toNat = 48 + k % 10 := by rw [← hD]; exact dgt_toNat _ (by omega)
    have e1 : IntKind.u8.wrap (48 + (k : Int) % 10) = (D.toNat : Int) := by rw [hDn]; exact u8_in k
    have e2 : decide ((k : Int) % 10 < 0) = false := by simp; omega
    have HD : Hid (dgt (k % 10) = D) := hD
    clear hD hDn
    by_cases hb : b.data.toList = []
    · obtain rfl := strEmpty b hb
      clear hb
      go_wp2
      go_roundw
      case rel => exact ⟨k / 10, _, by rfl, by omega, rfl, by rw [cons_str, ← HD.out]; exact HW.out.step (.inl rfl), hB.alloc hsz _⟩
      case measure => exact measI_lt _ _ _ (.inl rfl)
    · obtain ⟨hbe, hbf⟩ := str_ne b hb
      have hbs : b.size ≤ 19 := by
        have h1 := HW.out.len
        have h2 := dec_le N hN
        have h3 : b.size = b.data.toList.length := by rw [Array.length_toList]; rfl
        omega
      have HB : Hid (¬ b.data.toList = []) := hb
      clear hb
      by_cases hk0 : k = 0
      · subst hk0
        clear e1 e2 hcv HD
        go_wp2
        go_ret
        have := HW.out.done HB.out
        exact ⟨by rw [← this]; rfl, hB⟩
      · have hkn : ¬ (k : Int) = 0 := by omega
        have HK : Hid (¬ k = 0) := hk0
        clear hk0
        go_wp2
        go_roundw
        case rel => exact ⟨k / 10, _, by rfl, by omega, rfl, by rw [cons_str, ← HD.out]; exact HW.out.step (.inr HK.out), hB.alloc hsz _⟩
        case measure => exact measI_lt _ _ _ (.inr HK.out)

theorem nought_str (l : List UInt8) (j : Nat) : (⟨#[48]⟩ : ByteArray) ++ ⟨(List.replicate j 48 ++ l).toArray⟩ = ⟨(List.replicate (j + 1) 48 ++ l).toArray⟩ := by
  apply ByteArray.ext
  apply Array.toList_inj.1
  simp [ByteArray.data_append, List.replicate_succ]

def sizeV (s : Value) : Nat := match s with
  | .string b => b.size
  | _ => 0

theorem t_size_mk (l : List UInt8) : (⟨l.toArray⟩ : ByteArray).size = l.length := by
  show l.toArray.size = _
  simp

set_option maxHeartbeats 2000000 in
theorem cPadS (n wd : Nat) (w : World) (hn : n < 9223372036854775808) (hw : wd ≤ 100) :
    Calls Tryz.prog 113 #[.int .i64 n, .int .i64 wd] w fun e w' => e = .returned (.string ⟨(padL n wd).toArray⟩) ∧ Below w.heap.size w w' := by
  have hl := dec_le n hn
  unfold padL
  obtain ⟨l, hle⟩ : ∃ l, Lib.decDigits n = l := ⟨_, rfl⟩
  have C := cInt n w hn
  rw [hle] at C hl ⊢
  clear hle hn
  go_enter Tryz.func113, Tryz.ntmps113
  go_wp2_with fail
  refine C.mono ?_
  rintro e w1 ⟨rfl, hb1⟩
  go_wp2_with fail
  go_loop [5] (fun s => ∃ j : Nat, j ≤ wd - l.length ∧ s = .string ⟨(List.replicate j 48 ++ l).toArray⟩) (fun s => wd - sizeV s)
  case atStart => exact ⟨0, Nat.zero_le _, rfl⟩
  case round =>
    obtain ⟨j, hj, rfl⟩ := hrel
    obtain ⟨b, hbe⟩ : ∃ b : ByteArray, (⟨(List.replicate j 48 ++ l).toArray⟩ : ByteArray) = b := ⟨_, rfl⟩
    have hs : b.size = j + l.length := by rw [← hbe, t_size_mk]; simp
    rw [hbe]
    by_cases hlt : j < wd - l.length
    · have d1 : b.size < wd := by omega
      have hbs : b.size ≤ 119 := by omega
      have HE : Hid ((⟨(List.replicate j 48 ++ l).toArray⟩ : ByteArray) = b) := hbe
      have HS : Hid (b.size = j + l.length) := hs
      clear hbe hs
      go_wp2
      go_round
      case rel => exact ⟨j + 1, by omega, by rw [← HE.out, nought_str]⟩
      case measure =>
        have e : ((⟨#[48]⟩ : ByteArray) ++ b).size = b.size + 1 := by rw [ByteArray.size_append]; exact Nat.add_comm _ _
        have := HS.out
        simp only [sizeV, e]
        omega
    · have d1 : ¬ b.size < wd := by omega
      have ej : j = wd - l.length := by omega
      subst ej
      clear hs
      go_wp2
      go_ret
      exact ⟨rfl, hb1⟩

end Go.Proofs.YtknpgdglabibiaaGreatDoor

namespace Go.Proofs.YtknpgdglabibiaaGreatDoor
open Go.RowKit
set_option linter.unusedVariables false
set_option linter.unusedSimpArgs false

def powName : String := "internal/strconv.uint64pow10"

/-- The listed variables hold what the text lays in them: the months, and the library's table of tens. -/
def Laid (w : World) : Prop := Mon w ∧ Lib.TabIs Tryz.prog w powName .u64 Lib.pow10Tab

theorem powGlobal : ∃ g, Tryz.prog.globalNamed powName = some g := ⟨2, by kernel_rfl⟩

theorem Laid.below {w w' : World} (h : Laid w) (hb : Below w.heap.size w w') : Laid w' := by
  refine ⟨h.1.below hb, ?_⟩
  obtain ⟨g, hg⟩ := powGlobal
  have h2 := h.2
  unfold Lib.TabIs World.var? at h2 ⊢
  rw [hg] at h2 ⊢
  simp only [Option.bind_some] at h2 ⊢
  have hlt : g < w.heap.size := by
    rcases Nat.lt_or_ge g w.heap.size with h' | h'
    · exact h'
    · rw [Array.getElem?_eq_none h'] at h2
      cases h2
  rw [hb.block g hlt]
  exact h2

theorem pad_str (l : List UInt8) (c : Nat) : (⟨(Lib.repeatL [48] c).toArray⟩ : ByteArray) ++ ⟨l.toArray⟩ = ⟨(List.replicate c 48 ++ l).toArray⟩ := by
  have e : Lib.repeatL [48] c = List.replicate c 48 := by
    induction c with
    | zero => rfl
    | succ c ih => rw [Lib.repeatL, ih, List.replicate_succ]; rfl
  rw [e]
  apply ByteArray.ext
  apply Array.toList_inj.1
  simp [ByteArray.data_append]

set_option maxHeartbeats 2000000 in
theorem cPadI (n wd : Nat) (w : World) (hn : n < 9223372036854775808) (hw : wd ≤ 100) (hL : Laid w) :
    Calls Tryz.prog 133 #[.int .i64 n, .int .i64 wd] w fun e w' => e = .returned (.string ⟨(padL n wd).toArray⟩) ∧ Below w.heap.size w w' := by
  have hl := dec_le n hn
  have C := Tryz.strconv_FormatInt_10 n (by omega) (by omega) w hL.2
  rw [show Lib.itoa (n : Int) = Lib.decDigits n by unfold Lib.itoa; rw [if_neg (by omega)]; simp] at C
  unfold padL
  obtain ⟨l, hle⟩ : ∃ l, Lib.decDigits n = l := ⟨_, rfl⟩
  rw [hle] at C hl ⊢
  clear hle hn
  obtain ⟨b, hbe⟩ : ∃ b : ByteArray, (⟨l.toArray⟩ : ByteArray) = b := ⟨_, rfl⟩
  have hs : b.size = l.length := by rw [← hbe, t_size_mk]
  have hcat := pad_str l (wd - l.length)
  obtain ⟨r, hr⟩ : ∃ r : ByteArray, (⟨(Lib.repeatL [48] (wd - l.length)).toArray⟩ : ByteArray) = r := ⟨_, rfl⟩
  obtain ⟨o, ho⟩ : ∃ o : ByteArray, (⟨(List.replicate (wd - l.length) 48 ++ l).toArray⟩ : ByteArray) = o := ⟨_, rfl⟩
  have hrs : r.size = wd - l.length := by rw [← hr, t_size_mk, Lib.repeatL_length]; simp
  have D := fun w => Tryz.strings_Repeat ⟨#[48]⟩ (wd - l.length) w (by omega) (by show 1 * _ ≤ _; omega)
  rw [show (⟨#[48]⟩ : ByteArray).data.toList = [48] from rfl, hr] at D
  rw [hbe, hr, ho] at hcat
  rw [hbe] at C
  rw [ho]
  obtain ⟨c, hc⟩ : ∃ c, wd - l.length = c := ⟨_, rfl⟩
  rw [hc] at D hrs
  have hbs : b.size ≤ 19 := by omega
  have hm : max 0 ((wd : Int) - (b.size : Int)) = (c : Int) := by omega
  have HS : Hid (b.size = l.length) := hs
  have HC : Hid (wd - l.length = c) := hc
  have hcs : c ≤ 100 := by omega
  have hwr : IntKind.i64.wrap ((wd : Int) - (b.size : Int)) = (wd : Int) - (b.size : Int) := IntWalk.i64_in _ (by omega)
  clear hbe hr ho hs hc hL
  go_enter Tryz.func133, Tryz.ntmps133
  go_wp2_with fail
  refine C.mono ?_
  rintro e w1 ⟨rfl, k, os, hw1⟩
  have hb1 : Below w.heap.size w w1 := by rw [hw1]; exact Lib.below_grow _ _ (Nat.le_refl _) _ _
  clear hw1
  go_wp2_with fail
  refine (D _).mono ?_
  rintro e w2 ⟨rfl, hb2⟩
  go_wp2_with fail
  go_ret
  exact ⟨rfl, hb1.trans (hb2.mono hb1.size)⟩

end Go.Proofs.YtknpgdglabibiaaGreatDoor

namespace Go.Proofs.YtknpgdglabibiaaGreatDoor
open Go.RowKit
set_option linter.unusedVariables false
set_option linter.unusedSimpArgs false

theorem date_ex : ∀ d, d < 36525 → ∃ k m dd, IsDate d k m dd
  | 0, _ => ⟨0, 1, 1, by decide, by decide, by decide, by decide, by decide, rfl⟩
  | d + 1, h => by
    obtain ⟨k, m, dd, a⟩ := date_ex d (by omega)
    have he := a.eq; have h1 := a.d1; have hm0 := a.m0; have hm1 := a.m1; have hk := a.k1; have h0 := a.d0
    by_cases c1 : dd < dm (lp k) m
    · exact ⟨k, m, dd + 1, hk, hm0, hm1, by omega, by omega, by omega⟩
    · have e := mb_succ (lp k) m hm0 hm1
      by_cases c2 : m < 12
      · exact ⟨k, m + 1, 1, hk, by omega, by omega, by omega, by have := (dm_pos (lp k) (m + 1) (by omega) (by omega)).1; omega, by omega⟩
      · have : m = 12 := by omega
        subst this
        have e2 : mb (lp k) (12 + 1) = 365 + lp k := mb_13 _
        have e3 := yb_succ k
        have hk1 : k + 1 < 100 := yb_lt_inv (by omega)
        refine ⟨k + 1, 1, 1, hk1, by omega, by omega, by omega, by simp [dm], ?_⟩
        show d + 1 + 1 = yb (k + 1) + 0 + 1
        omega

open Classical in
noncomputable def pickText (t : Nat) : List UInt8 := if h : ∃ l, IsText t l then h.choose else []

/-- The text of a time; empty of no time. -/
noncomputable def textOf (t : Int) : List UInt8 := if 0 ≤ t ∧ t ≤ 3155759999 then pickText t.toNat else []

theorem isText_ex {t : Nat} (h : t ≤ 3155759999) : ∃ l, IsText t l := by
  obtain ⟨k, m, dd, a⟩ := date_ex (t / 86400) (by omega)
  exact ⟨_, k, m, dd, a, rfl⟩

theorem textOf_is {t : Nat} (h : t ≤ 3155759999) : IsText t (textOf t) := by
  have hx := isText_ex h
  unfold textOf
  rw [if_pos (by omega), Int.toNat_natCast]
  unfold pickText
  rw [dif_pos hx]
  exact hx.choose_spec

theorem textOf_eq {t k m dd : Nat} (h : t ≤ 3155759999) (a : IsDate (t / 86400) k m dd) : textOf t = txt k m dd (t % 86400 / 3600) (t % 3600 / 60) (t % 60) :=
  isText_unique (textOf_is h) ⟨k, m, dd, a, rfl⟩

theorem textOf_out {t : Int} (h : ¬ (0 ≤ t ∧ t ≤ 3155759999)) : textOf t = [] := by
  unfold textOf
  rw [if_neg h]

theorem two_len (n : Nat) : (two n).length = 2 := rfl

theorem cTwo (n : Nat) (w : World) (hn : n < 100) (hL : Laid w) :
    Calls Tryz.prog 132 #[.int .i64 n] w fun e w' => e = .returned (.string ⟨(two n).toArray⟩) ∧ Below w.heap.size w w' := by
  have C := cPadI n 2 w (by omega) (by omega) hL
  rw [padL_two hn] at C
  obtain ⟨b, hb⟩ : ∃ b : ByteArray, (⟨(two n).toArray⟩ : ByteArray) = b := ⟨_, rfl⟩
  rw [hb] at C ⊢
  clear hb
  go_enter Tryz.func132, Tryz.ntmps132
  go_wp2_with fail
  refine C.mono ?_
  rintro e w1 ⟨rfl, hb1⟩
  go_wp2_with fail
  go_ret
  exact ⟨rfl, hb1⟩

theorem cat_txt (k m dd h mi s : Nat) : ((((((((((((⟨([50, 48] ++ two k).toArray⟩ : ByteArray) ++ ⟨#[45]⟩) ++ ⟨(two m).toArray⟩) ++ ⟨#[45]⟩) ++ ⟨(two dd).toArray⟩) ++ ⟨#[84]⟩) ++ ⟨(two h).toArray⟩) ++ ⟨#[58]⟩) ++ ⟨(two mi).toArray⟩) ++ ⟨#[58]⟩) ++ ⟨(two s).toArray⟩) ++ ⟨#[90]⟩ : ByteArray) = ⟨(txt k m dd h mi s).toArray⟩ := by
  apply ByteArray.ext
  apply Array.toList_inj.1
  simp [ByteArray.data_append, txt]

set_option maxHeartbeats 4000000 in
theorem cTextI_in (t : Nat) (w : World) (ht : t ≤ 3155759999) (hL : Laid w) :
    Calls Tryz.prog 106 #[.int .i64 t] w fun e w' => e = .returned (.string ⟨(textOf t).toArray⟩) ∧ Below w.heap.size w w' := by
  have HL : Hid (Laid w) := hL
  clear hL
  have C0 := fun w => cTimeI t w
  rw [decide_eq_true (show (0 : Int) ≤ t ∧ (t : Int) ≤ 3155759999 by omega)] at C0
  have C1 := fun w hM => cDateOf (t / 86400) w (by omega) hM
  rw [show ((t / 86400 : Nat) : Int) = (t : Int) / 86400 by omega] at C1
  have HT : Hid (t ≤ 3155759999) := ht
  obtain ⟨O, hO⟩ : ∃ O : ByteArray, (⟨(textOf t).toArray⟩ : ByteArray) = O := ⟨_, rfl⟩
  have HO : Hid ((⟨(textOf t).toArray⟩ : ByteArray) = O) := hO
  rw [hO]
  clear hO
  go_enter Tryz.func106, Tryz.ntmps106
  go_wp2_with fail
  refine (C0 _).mono ?_
  rintro e w' ⟨rfl, rfl⟩
  go_wp2_with fail
  refine (C1 _ HL.out.1).mono ?_
  rintro e w1 ⟨k, m, dd, rfl, hD, hb1⟩
  obtain ⟨q1, q2, q3⟩ := date_bounds hD
  have E := HO.out
  rw [textOf_eq HT.out hD, ← cat_txt] at E
  have HE : Hid (_ = O) := E
  clear E hD C0 C1 HO
  have CY := fun w hL => cPadI (2000 + k) 4 w (by omega) (by omega) hL
  rw [padL_four q1] at CY
  have CM := fun w hL => cTwo m w q2 hL
  have CD := fun w hL => cTwo dd w q3 hL
  have CH := fun w hL => cTwo (t % 86400 / 3600) w (by omega) hL
  have CI := fun w hL => cTwo (t % 3600 / 60) w (by omega) hL
  have CS := fun w hL => cTwo (t % 60) w (by omega) hL
  have zY : (⟨([50, 48] ++ two k).toArray⟩ : ByteArray).size = 4 := rfl
  have zM : (⟨(two m).toArray⟩ : ByteArray).size = 2 := rfl
  have zD : (⟨(two dd).toArray⟩ : ByteArray).size = 2 := rfl
  have zH : (⟨(two (t % 86400 / 3600)).toArray⟩ : ByteArray).size = 2 := rfl
  have zI : (⟨(two (t % 3600 / 60)).toArray⟩ : ByteArray).size = 2 := rfl
  have zS : (⟨(two (t % 60)).toArray⟩ : ByteArray).size = 2 := rfl
  generalize (⟨([50, 48] ++ two k).toArray⟩ : ByteArray) = bY at *
  generalize (⟨(two m).toArray⟩ : ByteArray) = bM at *
  generalize (⟨(two dd).toArray⟩ : ByteArray) = bD at *
  generalize (⟨(two (t % 86400 / 3600)).toArray⟩ : ByteArray) = bH at *
  generalize (⟨(two (t % 3600 / 60)).toArray⟩ : ByteArray) = bI at *
  generalize (⟨(two (t % 60)).toArray⟩ : ByteArray) = bS at *
  rw [show ((t % 86400 / 3600 : Nat) : Int) = (t : Int) % 86400 / 3600 by omega] at CH
  rw [show ((t % 3600 / 60 : Nat) : Int) = (t : Int) % 3600 / 60 by omega] at CI
  rw [show ((t % 60 : Nat) : Int) = (t : Int) % 60 by omega] at CS
  generalize ((2000 + k : Nat) : Int) = y at *
  clear q1 q2 q3 ht
  have HB : Hid (Below w'.heap.size w' w1) := hb1
  clear hb1
  go_wp2_with fail
  refine (CY _ (HL.out.below HB.out)).mono ?_
  rintro e w2 ⟨rfl, hb⟩
  replace HB : Hid (Below w'.heap.size w' w2) := HB.out.trans (hb.mono HB.out.size)
  clear hb CY
  go_wp2_with fail
  refine (CM _ (HL.out.below HB.out)).mono ?_
  rintro e w3 ⟨rfl, hb⟩
  replace HB : Hid (Below w'.heap.size w' w3) := HB.out.trans (hb.mono HB.out.size)
  clear hb CM
  go_wp2_with fail
  refine (CD _ (HL.out.below HB.out)).mono ?_
  rintro e w4 ⟨rfl, hb⟩
  replace HB : Hid (Below w'.heap.size w' w4) := HB.out.trans (hb.mono HB.out.size)
  clear hb CD
  go_wp2_with fail
  refine (CH _ (HL.out.below HB.out)).mono ?_
  rintro e w5 ⟨rfl, hb⟩
  replace HB : Hid (Below w'.heap.size w' w5) := HB.out.trans (hb.mono HB.out.size)
  clear hb CH
  go_wp2_with fail
  refine (CI _ (HL.out.below HB.out)).mono ?_
  rintro e w6 ⟨rfl, hb⟩
  replace HB : Hid (Below w'.heap.size w' w6) := HB.out.trans (hb.mono HB.out.size)
  clear hb CI
  go_wp2_with fail
  refine (CS _ (HL.out.below HB.out)).mono ?_
  rintro e w7 ⟨rfl, hb⟩
  replace HB : Hid (Below w'.heap.size w' w7) := HB.out.trans (hb.mono HB.out.size)
  clear hb CS
  go_wp2_with fail
  go_ret
  exact ⟨congrArg (fun x => Ending.returned (Value.string x)) HE.out, HB.out⟩

end Go.Proofs.YtknpgdglabibiaaGreatDoor
