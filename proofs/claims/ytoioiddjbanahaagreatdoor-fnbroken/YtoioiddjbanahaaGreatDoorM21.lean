/-  -/
import Derived.Test.YtoioiddjbanahaaGreatDoorM20
import Derived.Test.YtoioiddjbanahaaGreatDoorM14
import Derived.Test.YtoioiddjbanahaaGreatDoorM12
import Derived.Test.YtoioiddjbanahaaGreatDoorRows
import Derived.Test.YtoioiddjbanahaaGreatDoorM1
import Derived.Test.YtoioiddjbanahaaGreatDoorM19
import Derived.Lib.Repeat
import Derived.WalkKit
import Derived.Lib.AppendIntMem
set_option linter.unusedVariables false
set_option linter.unusedSimpArgs false
namespace Go.Proofs.YtoioiddjbanahaaGreatDoor

open Go.RowKit

noncomputable def canB (ts : List Tk) (x y : Int) : Bool := namesB ts && (elemB ts x && (decide (-1 <= y /\ y <= (ts.length : Int) - 1) && !decide (y = x)))

noncomputable def canonI (ts : List Tk) (x y : Int) : ByteArray := if canB ts x y then canonN ts y ts.length x.toNat [] else ⟨#[]⟩

theorem canonI_no {ts : List Tk} {x y : Int} (h : canB ts x y = false) : canonI ts x y = ⟨#[]⟩ := by unfold canonI; rw [h]; rfl

theorem canonI_yes {ts : List Tk} {x y : Int} (h : canB ts x y = true) : canonI ts x y = canonN ts y ts.length x.toNat [] := by unfold canonI; rw [h]; rfl

set_option maxHeartbeats 2000000 in
theorem c_spec_l1InC (x lo hi : Int) (w : World) : Calls Tryz.prog 39 #[.int .i64 x, .int .i64 lo, .int .i64 hi] w fun e w' => e = .returned (.bool (decide (lo <= x /\ x <= hi))) /\ w' = w := by
 by_cases h1 : lo <= x
 ·by_cases h2 : x <= hi
  ·rw [decide_eq_true ⟨h1, h2⟩]
   go_enter Tryz.func39, Tryz.ntmps39
   go_wp2
   go_ret
   exact ⟨rfl, rfl⟩
  ·rw [decide_eq_false (fun h => h2 h.2)]
   go_enter Tryz.func39, Tryz.ntmps39
   go_wp2
   go_ret
   exact ⟨rfl, rfl⟩
 ·rw [decide_eq_false (fun h => h1 h.1)]
  go_enter Tryz.func39, Tryz.ntmps39
  go_wp2
  go_ret
  exact ⟨rfl, rfl⟩

set_option maxRecDepth 4000 in
set_option maxHeartbeats 4000000 in
theorem cCanonS (a : Option Addr) (cap : Nat) (ts : List Tk) (x y : Int) (w : World) (hR : TkRow w a ts) (hn : ts.length <= 1048576) (hz : TksSz 1048576 ts) :
  Calls Tryz.prog 13 #[.slice a ts.length cap, .int .i64 x, .int .i64 y] w fun e w' => e = .returned (.string (canonI ts x y)) /\ Below w.heap.size w w' := by
 have CN := hid (cNamesOkS a cap ts w hR hn hz)
 have CE := hid (fun wx (hb : Below w.heap.size w wx) => c_spec_l9Element a cap ts x wx (hR.below hb) hn hz)
 have CI := hid (fun wx => c_spec_l1InC y (-1) ((ts.length : Int) - 1) wx)
 have hlen : (0 : Int) <= (ts.length : Int) /\ (ts.length : Int) <= 1048576 := by omega
 cases h1 : namesB ts with
 | false =>
  rw [canonI_no (by unfold canB; rw [h1]; rfl)]
  rw [h1] at CN
  clear hR hz h1 CE CI
  generalize ts.length = n at *
  go_enter Tryz.func13, Tryz.ntmps13
  go_wp2_with fail
  refine CN.out.mono ?_
  rintro e w1 ⟨rfl, hb1⟩
  have HB1 := hid hb1
  clear hb1 CN
  go_wp2_with fail
  go_ret
  exact ⟨rfl, HB1.out⟩
 | true =>
  rw [h1] at CN
  cases h2 : elemB ts x with
  | false =>
   rw [canonI_no (by unfold canB; rw [h1, h2]; rfl)]
   rw [h2] at CE
   clear hR hz h1 h2 CI
   generalize ts.length = n at *
   go_enter Tryz.func13, Tryz.ntmps13
   go_wp2_with fail
   refine CN.out.mono ?_
   rintro e w1 ⟨rfl, hb1⟩
   have HB1 := hid hb1
   clear hb1 CN
   go_wp2_with fail
   refine (CE.out _ HB1.out).mono ?_
   rintro e w2 ⟨rfl, hb2⟩
   have HB2 := hid (bb HB1.out hb2)
   clear hb2 CE
   go_wp2_with fail
   go_ret
   exact ⟨rfl, HB2.out⟩
  | true =>
   rw [h2] at CE
   cases h3 : decide (-1 <= y /\ y <= (ts.length : Int) - 1) with
   | false =>
    rw [canonI_no (by unfold canB; rw [h1, h2, h3]; rfl)]
    rw [h3] at CI
    clear hR hz h1 h2 h3
    generalize ts.length = n at *
    go_enter Tryz.func13, Tryz.ntmps13
    go_wp2_with fail
    refine CN.out.mono ?_
    rintro e w1 ⟨rfl, hb1⟩
    have HB1 := hid hb1
    clear hb1 CN
    go_wp2_with fail
    refine (CE.out _ HB1.out).mono ?_
    rintro e w2 ⟨rfl, hb2⟩
    have HB2 := hid (bb HB1.out hb2)
    clear hb2 CE
    go_wp2_with fail
    refine (CI.out _).mono ?_
    rintro e w3 ⟨rfl, rfl⟩
    go_wp2_with fail
    go_ret
    exact ⟨rfl, HB2.out⟩
   | true =>
    rw [h3] at CI
    by_cases h4 : y = x
    ·rw [canonI_no (by unfold canB; rw [h1, h2, h3, decide_eq_true h4]; rfl)]
     subst h4
     have hyy : (y == y) = true := by simp
     clear hR hz h1 h2 h3
     generalize ts.length = n at *
     go_enter Tryz.func13, Tryz.ntmps13
     go_wp2_with fail
     refine CN.out.mono ?_
     rintro e w1 ⟨rfl, hb1⟩
     have HB1 := hid hb1
     clear hb1 CN
     go_wp2_with fail
     refine (CE.out _ HB1.out).mono ?_
     rintro e w2 ⟨rfl, hb2⟩
     have HB2 := hid (bb HB1.out hb2)
     clear hb2 CE
     go_wp2_with fail
     refine (CI.out _).mono ?_
     rintro e w3 ⟨rfl, rfl⟩
     go_wp2_with fail
     go_ret
     exact ⟨rfl, HB2.out⟩
    ·rw [canonI_yes (by unfold canB; rw [h1, h2, h3, decide_eq_false h4]; rfl)]
     obtain ⟨hT, k, rfl, hk⟩ := elemB_t h2
     have hyy : (y == (k : Int)) = false := by simpa using h4
     have CC := hid (fun wx (hb : Below w.heap.size w wx) => c_spec_l11Canon a cap ts y hT hz ts.length k [] none 0 wx (hR.below hb) hk (by omega) (fun i hi => absurd hi (Nat.not_lt_zero _)) (Nat.zero_le _))
     rw [show ((k : Int).toNat) = k from rfl]
     clear hR hz h1 h2 h3 h4 hT hk
     generalize canonN ts y ts.length k [] = R at *
     generalize ts.length = n at *
     go_enter Tryz.func13, Tryz.ntmps13
     go_wp2_with fail
     refine CN.out.mono ?_
     rintro e w1 ⟨rfl, hb1⟩
     have HB1 := hid hb1
     clear hb1 CN
     go_wp2_with fail
     refine (CE.out _ HB1.out).mono ?_
     rintro e w2 ⟨rfl, hb2⟩
     have HB2 := hid (bb HB1.out hb2)
     clear hb2 CE
     go_wp2_with fail
     refine (CI.out _).mono ?_
     rintro e w3 ⟨rfl, rfl⟩
     go_wp2_with fail
     refine (CC.out _ HB2.out).mono ?_
     rintro e w4 ⟨rfl, hb4⟩
     have HB4 := hid (bb HB2.out hb4)
     clear hb4 CC
     go_wp2_with fail
     go_ret
     exact ⟨rfl, HB4.out⟩

end Go.Proofs.YtoioiddjbanahaaGreatDoor

namespace Go.Proofs.YtoioiddjbanahaaGreatDoor

open Go.RowKit

def dgt (k : Nat) : UInt8 := UInt8.ofNat (48 + k)

theorem dgt_toNat (k : Nat) (h : k < 10) : (dgt k).toNat = 48 + k := by
 unfold dgt
 rw [UInt8.toNat_ofNat']
 omega

def padL (n wd : Nat) : List UInt8 := List.replicate (wd - (Lib.decDigits n).length) 48 ++ Lib.decDigits n

theorem dec_small {n : Nat} (h : n < 10) : Lib.decDigits n = [dgt n] := Lib.decDigits_one h

theorem dec_big {n : Nat} (h : ¬ n < 10) : Lib.decDigits n = Lib.decDigits (n / 10) ++ [dgt (n % 10)] := by
 rw [Lib.decDigits, dif_neg h]
 rfl

theorem dec_le (n : Nat) (h : n < 9223372036854775808) : (Lib.decDigits n).length <= 19 := by
 rw [Lib.decDigits_length]
 have key : ∀ (k : Nat) (u : Nat), u < 10 ^ (k + 1) -> Lib.nDigits u <= k + 1 := by
  intro k
  induction k with
  | zero => intro u hu; rw [Lib.nDigits_small (by simpa using hu)]; exact Nat.le_refl _
  | succ k ih =>
   intro u hu
   by_cases h : u < 10
   ·rw [Lib.nDigits_small h]; omega
   ·rw [Lib.nDigits_big h]
    have := ih (u / 10) (by rw [Nat.pow_succ] at hu; omega)
    omega
 exact key 18 n (by omega)

def Writ (N n : Nat) (l : List UInt8) : Prop := (l = [] /\ n = N) \/ (l ≠ [] /\ (if n = 0 then [] else Lib.decDigits n) ++ l = Lib.decDigits N)

theorem Writ.step {N n : Nat} {l : List UInt8} (h : Writ N n l) (hgo : l = [] \/ n ≠ 0) : Writ N (n / 10) (dgt (n % 10) :: l) := by
 refine .inr ⟨by simp, ?_⟩
 have key : (if n / 10 = 0 then [] else Lib.decDigits (n / 10)) ++ dgt (n % 10) :: l = Lib.decDigits n ++ l := by
  by_cases h1 : n < 10
  ·rw [if_pos (by omega), dec_small h1, show n % 10 = n by omega]
   rfl
  ·rw [if_neg (by omega), dec_big h1]
   simp
 rw [key]
 rcases h with ⟨rfl, rfl⟩ | ⟨h1, h2⟩
 ·simp
 ·rcases hgo with h | h
  ·exact absurd h h1
  ·rw [if_neg h] at h2
   exact h2

theorem Writ.done {N : Nat} {l : List UInt8} (h : Writ N 0 l) (hl : l ≠ []) : l = Lib.decDigits N := by
 rcases h with ⟨h, _⟩ | ⟨_, h⟩
 ·exact absurd h hl
 ·simpa using h

theorem Writ.len {N n : Nat} {l : List UInt8} (h : Writ N n l) : l.length <= (Lib.decDigits N).length := by
 rcases h with ⟨rfl, _⟩ | ⟨_, h⟩
 ·simp
 ·rw [<- h]; simp

theorem pad_conv1 (W : World) (b : UInt8) : (convert 22 9 (.slice (some ⟨W.heap.size, 0, none⟩) 1 1)).run Tryz.prog (W.alloc (.cells #[.int .u8 b.toNat] 5)) = .ok (.string ⟨#[b]⟩) (W.alloc (.cells #[.int .u8 b.toNat] 5)) := by
 have hown : (W.alloc (.cells #[.int .u8 b.toNat] 5)).ownsRow 0 5 1 (.slice (some ⟨W.heap.size, 0, none⟩) [b].length 1) [b].length (Lib.byteCells [b]) :=
  ⟨rfl, .inr ⟨W.heap.size, 1, #[.int .u8 b.toNat], rfl, Nat.zero_le _, heap_alloc_new W _, Nat.le_refl _, by decide, rfl, rfl⟩⟩
 exact run_str_own (P := Tryz.prog) (src := 22) (dst := 9) Tryz.underlying22 Tryz.underlying5 Tryz.underlying9 hown

theorem strEmpty (b : ByteArray) (h : b.data.toList = []) : b = ⟨#[]⟩ := by
 apply ByteArray.ext
 apply Array.toList_inj.1
 exact h

theorem u8_in (k : Nat) : IntKind.u8.wrap (48 + (k : Int) % 10) = ((48 + k % 10 : Nat) : Int) := by
 rw [IntWalk.u8_in _ (by omega)]
 omega

theorem str_ne (b : ByteArray) (h : ¬ b.data.toList = []) : (b.toList == []) = false /\ (b.toList == (ByteArray.mk #[]).toList) = false := by
 have e : b.toList = b.data.toList := ByteArray.toList_eq b
 have e2 : (ByteArray.mk #[]).toList = [] := ByteArray.toList_eq _
 rw [e2, e]
 have : (b.data.toList == []) = false := by
  rw [beq_eq_false_iff_ne]
  exact h
 exact ⟨this, this⟩

def measI (n s : Value) : Nat := 2 * (intOf n).toNat + match s with
 | .string b => if b.data.toList = [] then 1 else 0
 | _ => 0

theorem cons_str (D : UInt8) (b : ByteArray) : ((⟨#[D]⟩ : ByteArray) ++ b).data.toList = D :: b.data.toList := by
 simp [ByteArray.data_append]

theorem measI_lt (k : Nat) (D : UInt8) (b : ByteArray) (h : b.data.toList = [] \/ k ≠ 0) : measI (.int .i64 ((k : Int) / 10)) (.string (⟨#[D]⟩ ++ b)) < measI (.int .i64 k) (.string b) := by
 unfold measI
 simp only [intOf, cons_str]
 have e : ((k : Int) / 10).toNat = k / 10 := by omega
 rw [e]
 by_cases hb : b.data.toList = []
 ·simp [hb]; omega
 ·rcases h with h | h
  ·exact absurd h hb
  ·simp [hb]; omega

set_option maxHeartbeats 2000000 in
theorem cInt (N : Nat) (w : World) (hN : N < 9223372036854775808) :
  Calls Tryz.prog 167 #[.int .i64 N] w fun e w' => e = .returned (.string ⟨(Lib.decDigits N).toArray⟩) /\ Below w.heap.size w w' := by
 go_enter Tryz.func167, Tryz.ntmps167
 go_wp2
 go_loopw [0, 3] (fun n s wr => ∃ (k : Nat) (b : ByteArray), n = .int .i64 (k : Int) /\ k <= N /\ s = .string b /\ Writ N k b.data.toList /\ Below w.heap.size w wr) (fun n s _ => measI n s)
 case atStart => exact ⟨N, _, rfl, Nat.le_refl _, rfl, .inl ⟨rfl, rfl⟩, Below.refl _ _⟩
 case round =>
  obtain ⟨k, b, rfl, hk, rfl, hW, hB⟩ := hrel
  have HW : Hid (Writ N k b.data.toList) := hW
  clear hW
  have hsz := hB.size
  obtain ⟨D, hD⟩ : ∃ D : UInt8, dgt (k % 10) = D := ⟨_, rfl⟩
  have hcv := fun W => pad_conv1 W D
  have hDn : D.toNat = 48 + k % 10 := by rw [<- hD]; exact dgt_toNat _ (by omega)
  have e1 : IntKind.u8.wrap (48 + (k : Int) % 10) = (D.toNat : Int) := by rw [hDn]; exact u8_in k
  have e2 : decide ((k : Int) % 10 < 0) = false := by simp; omega
  have HD : Hid (dgt (k % 10) = D) := hD
  clear hD hDn
  by_cases hb : b.data.toList = []
  ·obtain rfl := strEmpty b hb
   clear hb
   go_wp2
   go_roundw
   case rel => exact ⟨k / 10, _, by rfl, by omega, rfl, by rw [cons_str, <- HD.out]; exact HW.out.step (.inl rfl), hB.alloc hsz _⟩
   case measure => exact measI_lt _ _ _ (.inl rfl)
  ·obtain ⟨hbe, hbf⟩ := str_ne b hb
   have hbs : b.size <= 19 := by
    have h1 := HW.out.len
    have h2 := dec_le N hN
    have h3 : b.size = b.data.toList.length := by rw [Array.length_toList]; rfl
    omega
   have HB : Hid (¬ b.data.toList = []) := hb
   clear hb
   by_cases hk0 : k = 0
   ·subst hk0
    clear e1 e2 hcv HD
    go_wp2
    go_ret
    have := HW.out.done HB.out
    exact ⟨by rw [<- this]; rfl, hB⟩
   ·have hkn : ¬ (k : Int) = 0 := by omega
    have HK : Hid (¬ k = 0) := hk0
    clear hk0
    go_wp2
    go_roundw
    case rel => exact ⟨k / 10, _, by rfl, by omega, rfl, by rw [cons_str, <- HD.out]; exact HW.out.step (.inr HK.out), hB.alloc hsz _⟩
    case measure => exact measI_lt _ _ _ (.inr HK.out)

theorem nought_str (l : List UInt8) (j : Nat) : (⟨#[48]⟩ : ByteArray) ++ ⟨(List.replicate j 48 ++ l).toArray⟩ = ⟨(List.replicate (j + 1) 48 ++ l).toArray⟩ := by
 apply ByteArray.ext
 apply Array.toList_inj.1
 simp [ByteArray.data_append, List.replicate_succ]

def sizeV (s : Value) : Nat := match s with
 | .string b => b.size
 | _ => 0

theorem pad_size_mk (l : List UInt8) : (⟨l.toArray⟩ : ByteArray).size = l.length := by
 show l.toArray.size = _
 simp

set_option maxHeartbeats 2000000 in
theorem cPadS (n wd : Nat) (w : World) (hn : n < 9223372036854775808) (hw : wd <= 100) :
  Calls Tryz.prog 125 #[.int .i64 n, .int .i64 wd] w fun e w' => e = .returned (.string ⟨(padL n wd).toArray⟩) /\ Below w.heap.size w w' := by
 have hl := dec_le n hn
 unfold padL
 obtain ⟨l, hle⟩ : ∃ l, Lib.decDigits n = l := ⟨_, rfl⟩
 have C := cInt n w hn
 rw [hle] at C hl ⊢
 clear hle hn
 go_enter Tryz.func125, Tryz.ntmps125
 go_wp2_with fail
 refine C.mono ?_
 rintro e w1 ⟨rfl, hb1⟩
 go_wp2_with fail
 go_loop [5] (fun s => ∃ j : Nat, j <= wd - l.length /\ s = .string ⟨(List.replicate j 48 ++ l).toArray⟩) (fun s => wd - sizeV s)
 case atStart => exact ⟨0, Nat.zero_le _, rfl⟩
 case round =>
  obtain ⟨j, hj, rfl⟩ := hrel
  obtain ⟨b, hbe⟩ : ∃ b : ByteArray, (⟨(List.replicate j 48 ++ l).toArray⟩ : ByteArray) = b := ⟨_, rfl⟩
  have hs : b.size = j + l.length := by rw [<- hbe, pad_size_mk]; simp
  rw [hbe]
  by_cases hlt : j < wd - l.length
  ·have d1 : b.size < wd := by omega
   have hbs : b.size <= 119 := by omega
   have HE : Hid ((⟨(List.replicate j 48 ++ l).toArray⟩ : ByteArray) = b) := hbe
   have HS : Hid (b.size = j + l.length) := hs
   clear hbe hs
   go_wp2
   go_round
   case rel => exact ⟨j + 1, by omega, by rw [<- HE.out, nought_str]⟩
   case measure =>
    have e : ((⟨#[48]⟩ : ByteArray) ++ b).size = b.size + 1 := by rw [ByteArray.size_append]; exact Nat.add_comm _ _
    have := HS.out
    simp only [sizeV, e]
    omega
  ·have d1 : ¬ b.size < wd := by omega
   have ej : j = wd - l.length := by omega
   subst ej
   clear hs
   go_wp2
   go_ret
   exact ⟨rfl, hb1⟩

end Go.Proofs.YtoioiddjbanahaaGreatDoor

namespace Go.Proofs.YtoioiddjbanahaaGreatDoor

open Go.RowKit

def powName : String := "internal/strconv.uint64pow10"

def Laid (w : World) : Prop := Lib.TabIs Tryz.prog w powName .u64 Lib.pow10Tab

theorem powGlobal : ∃ g, Tryz.prog.globalNamed powName = some g := ⟨0, by kernel_rfl⟩

theorem Laid.below {w w' : World} (h2 : Laid w) (hb : Below w.heap.size w w') : Laid w' := by
 obtain ⟨g, hg⟩ := powGlobal
 unfold Laid Lib.TabIs World.var? at h2 ⊢
 rw [hg] at h2 ⊢
 simp only [Option.bind_some] at h2 ⊢
 have hlt : g < w.heap.size := by
  rcases Nat.lt_or_ge g w.heap.size with h' | h'
  ·exact h'
  ·rw [Array.getElem?_eq_none h'] at h2
   cases h2
 rw [hb.block g hlt]
 exact h2

theorem pad_str (l : List UInt8) (c : Nat) : (⟨(Lib.repeatL [48] c).toArray⟩ : ByteArray) ++ ⟨l.toArray⟩ = ⟨(List.replicate c 48 ++ l).toArray⟩ := by
 have e : Lib.repeatL [48] c = List.replicate c 48 := by
  induction c with
  | zero => rfl
  | succ c ih => rw [Lib.repeatL, ih, List.replicate_succ]; rfl
 rw [e]
 apply ByteArray.ext
 apply Array.toList_inj.1
 simp [ByteArray.data_append]

set_option maxHeartbeats 2000000 in
theorem cPadI (n wd : Nat) (w : World) (hn : n < 9223372036854775808) (hw : wd <= 100) (hL : Laid w) :
  Calls Tryz.prog 86 #[.int .i64 n, .int .i64 wd] w fun e w' => e = .returned (.string ⟨(padL n wd).toArray⟩) /\ Below w.heap.size w w' := by
 have hl := dec_le n hn
 have C := Tryz.strconv_FormatInt_10 n (by omega) (by omega) w hL
 rw [show Lib.itoa (n : Int) = Lib.decDigits n by unfold Lib.itoa; rw [if_neg (by omega)]; simp] at C
 unfold padL
 obtain ⟨l, hle⟩ : ∃ l, Lib.decDigits n = l := ⟨_, rfl⟩
 rw [hle] at C hl ⊢
 clear hle hn
 obtain ⟨b, hbe⟩ : ∃ b : ByteArray, (⟨l.toArray⟩ : ByteArray) = b := ⟨_, rfl⟩
 have hs : b.size = l.length := by rw [<- hbe, pad_size_mk]
 have hcat := pad_str l (wd - l.length)
 obtain ⟨r, hr⟩ : ∃ r : ByteArray, (⟨(Lib.repeatL [48] (wd - l.length)).toArray⟩ : ByteArray) = r := ⟨_, rfl⟩
 obtain ⟨o, ho⟩ : ∃ o : ByteArray, (⟨(List.replicate (wd - l.length) 48 ++ l).toArray⟩ : ByteArray) = o := ⟨_, rfl⟩
 have hrs : r.size = wd - l.length := by rw [<- hr, pad_size_mk, Lib.repeatL_length]; simp
 have D := fun w => Tryz.strings_Repeat ⟨#[48]⟩ (wd - l.length) w (by omega) (by show 1 * _ <= _; omega)
 rw [show (⟨#[48]⟩ : ByteArray).data.toList = [48] from rfl, hr] at D
 rw [hbe, hr, ho] at hcat
 rw [hbe] at C
 rw [ho]
 obtain ⟨c, hc⟩ : ∃ c, wd - l.length = c := ⟨_, rfl⟩
 rw [hc] at D hrs
 have hbs : b.size <= 19 := by omega
 have hm : max 0 ((wd : Int) - (b.size : Int)) = (c : Int) := by omega
 have HS : Hid (b.size = l.length) := hs
 have HC : Hid (wd - l.length = c) := hc
 have hcs : c <= 100 := by omega
 have hwr : IntKind.i64.wrap ((wd : Int) - (b.size : Int)) = (wd : Int) - (b.size : Int) := IntWalk.i64_in _ (by omega)
 clear hbe hr ho hs hc hL
 go_enter Tryz.func86, Tryz.ntmps86
 go_wp2_with fail
 refine C.mono ?_
 rintro e w1 ⟨rfl, k, os, hw1⟩
 have hb1 : Below w.heap.size w w1 := by rw [hw1]; exact Lib.below_grow _ _ (Nat.le_refl _) _ _
 clear hw1
 go_wp2_with fail
 refine (D _).mono ?_
 rintro e w2 ⟨rfl, hb2⟩
 go_wp2_with fail
 go_ret
 exact ⟨rfl, hb1.trans (hb2.mono hb1.size)⟩

end Go.Proofs.YtoioiddjbanahaaGreatDoor

namespace Go.Proofs.YtoioiddjbanahaaGreatDoor

open Go.RowKit

def dgL (n : Int) : List UInt8 := if 0 <= n /\ n <= 9999999999 then padL n.toNat 10 else []

theorem cIn (x lo hi : Int) (w : World) :
  Calls Tryz.prog 39 #[.int .i64 x, .int .i64 lo, .int .i64 hi] w fun e w' => e = .returned (.bool (decide (lo <= x /\ x <= hi))) /\ w' = w := by
 go_enter Tryz.func39, Tryz.ntmps39
 go_wp2
 all_goals go_ret
 all_goals exact ⟨by congr 2; simp; try omega, rfl⟩

theorem cDigS (n : Int) (w : World) :
  Calls Tryz.prog 69 #[.int .i64 n] w fun e w' => e = .returned (.string ⟨(dgL n).toArray⟩) /\ Below w.heap.size w w' := by
 have C := fun w => cIn n 0 9999999999 w
 by_cases h : 0 <= n /\ n <= 9999999999
 ·obtain ⟨k, rfl⟩ : ∃ k : Nat, n = k := ⟨n.toNat, by omega⟩
  have D := fun w => cPadS k 10 w (by omega) (by omega)
  have e : dgL k = padL k 10 := by unfold dgL; rw [if_pos h]; rfl
  rw [decide_eq_true h] at C
  rw [e]
  generalize padL k 10 = X at *
  clear e h
  go_enter Tryz.func69, Tryz.ntmps69
  go_wp2_with fail
  refine (C _).mono ?_
  rintro e w' ⟨rfl, rfl⟩
  go_wp2_with fail
  refine (D _).mono ?_
  rintro e w' ⟨rfl, hb⟩
  go_wp2_with fail
  go_ret
  exact ⟨rfl, hb⟩
 ·have e : dgL n = [] := by unfold dgL; rw [if_neg h]
  rw [decide_eq_false h] at C
  rw [e]
  clear e h
  go_enter Tryz.func69, Tryz.ntmps69
  go_wp2_with fail
  refine (C _).mono ?_
  rintro e w' ⟨rfl, rfl⟩
  go_wp2_with fail
  go_ret
  exact ⟨rfl, Below.refl _ _⟩

theorem cDigI (n : Int) (w : World) (hL : Laid w) :
  Calls Tryz.prog 42 #[.int .i64 n] w fun e w' => e = .returned (.string ⟨(dgL n).toArray⟩) /\ Below w.heap.size w w' := by
 by_cases h : 0 <= n /\ n <= 9999999999
 ·obtain ⟨k, rfl⟩ : ∃ k : Nat, n = k := ⟨n.toNat, by omega⟩
  have D := cPadI k 10 w (by omega) (by omega) hL
  have e : dgL k = padL k 10 := by unfold dgL; rw [if_pos h]; rfl
  rw [e]
  generalize padL k 10 = X at *
  have h1 : ¬ ((k : Int) < 0) := by omega
  have h2 : ¬ ((9999999999 : Int) < (k : Int)) := by omega
  clear e h hL
  go_enter Tryz.func42, Tryz.ntmps42
  go_wp2_with fail
  refine D.mono ?_
  rintro e w' ⟨rfl, hb⟩
  go_wp2_with fail
  go_ret
  exact ⟨rfl, hb⟩
 ·have e : dgL n = [] := by unfold dgL; rw [if_neg h]
  rw [e]
  clear e hL
  by_cases h0 : n < 0
  ·clear h
   go_enter Tryz.func42, Tryz.ntmps42
   go_wp2_with fail
   go_ret
   exact ⟨rfl, Below.refl _ _⟩
  ·have h2 : (9999999999 : Int) < n := by omega
   clear h
   go_enter Tryz.func42, Tryz.ntmps42
   go_wp2_with fail
   go_ret
   exact ⟨rfl, Below.refl _ _⟩

end Go.Proofs.YtoioiddjbanahaaGreatDoor
