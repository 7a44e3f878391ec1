/-  -/
import Derived.Test.YtlpbbkaelbafdaaGreatDoorM29
import Derived.Test.YtlpbbkaelbafdaaGreatDoorM12
import Derived.Test.YtlpbbkaelbafdaaGreatDoorM16
import Derived.Test.YtlpbbkaelbafdaaGreatDoorM26
set_option linter.unusedVariables false
set_option linter.unusedSimpArgs false
namespace Go.Proofs.YtlpbbkaelbafdaaGreatDoor
open Go.RowKit

theorem first_of {P : Nat -> Prop} : ∀ k, (∀ j, j < k -> ¬ P j) \/ ∃ j, j < k /\ P j /\ ∀ i, i < j -> ¬ P i
 | 0 => .inl fun j h => absurd h (Nat.not_lt_zero _)
 | k + 1 => by
  rcases first_of (P := P) k with h | ⟨j, hj, h1, h2⟩
  ·by_cases q : P k
   ·exact .inr ⟨k, Nat.lt_succ_self _, q, h⟩
   ·refine .inl fun j hj => ?_
    rcases Nat.lt_or_eq_of_le (Nat.le_of_lt_succ hj) with h' | rfl
    ·exact h j h'
    ·exact q
  ·exact .inr ⟨j, by omega, h1, h2⟩

theorem find_first {ts : List Tk} {k n : Nat} {v : ByteArray} (hk : k < n) (h : idAt ts k = some v) : (findN ts v n = (k : Int) /\ ¬ v ∈ idsTo ts k) \/ (¬ findN ts v n = (k : Int) /\ v ∈ idsTo ts k) := by
 rcases first_of (P := fun j => idAt ts j = some v) k with q | ⟨j, hj, h1, h2⟩
 ·refine .inl ⟨findN_at hk q h, fun hm => ?_⟩
  obtain ⟨j, hj, e⟩ := mem_idsTo.1 hm
  exact q j hj e
 ·refine .inr ⟨?_, mem_idsTo.2 ⟨j, hj, h1⟩⟩
  rw [findN_at (by omega) h2 h1]
  omega

set_option maxRecDepth 8000 in
set_option maxHeartbeats 8000000 in
theorem cIdsOkI (a : Option Addr) (cap : Nat) (ts : List Tk) (w : World) (hR : TkRow w a ts) (hn : ts.length <= 1048576) (hz : TksSz 1048576 ts) :
  Calls Tryz.prog 35 #[.slice a ts.length cap] w fun e w' => e = .returned (.bool (idsB ts)) /\ Below w.heap.size w w' := by
 have CT := hid (cTreeOkI a cap ts w hR hn hz)
 cases ht : treeB ts with
 | false =>
  have HE := hid (show idsB ts = false by unfold idsB; rw [ht, Bool.and_false])
  rw [HE.out]
  rw [ht] at CT
  clear ht HE hR hz
  generalize ts.length = n at *
  go_enter Tryz.func35, Tryz.ntmps35
  go_wp2_with fail
  refine CT.out.mono ?_
  rintro e w1 ⟨rfl, hb1⟩
  have HB1 := hid hb1
  clear hb1 CT
  go_wp2_with fail
  go_ret
  exact ⟨rfl, HB1.out⟩
 | true =>
  have hT := treeB_p ht
  obtain ⟨V, hV⟩ : ∃ V, idsB ts = V := ⟨_, rfl⟩
  have HF : Hid (¬ IdsP ts ts.length -> V = false) := fun h => by rw [<- hV]; exact idsB_f h
  have HT : Hid (IdsP ts ts.length -> V = true) := fun h => by rw [<- hV, idsB_is h]; exact ht
  have CI := hid (fun (v : ByteArray) wx (hb : Below w.heap.size w wx) => cIdAtI a cap ts v wx (hR.below hb) hT hn hz)
  have CZ := hid (fun (k : Nat) (v : ByteArray) (hk : k < ts.length) (h : idAt ts k = some v) => idAt_sz hz hk h)
  have HR := hid hR
  have HZ := hid hz
  rw [hV]
  rw [ht] at CT
  clear hV hR hz ht hT
  obtain ⟨n, hnn⟩ : ∃ n, ts.length = n := ⟨_, rfl⟩
  have HN := hid hnn
  rw [hnn] at hn CT CI HF HT CZ ⊢
  clear hnn
  go_enter Tryz.func35, Tryz.ntmps35
  go_wp2_with fail
  refine CT.out.mono ?_
  rintro e w1 ⟨rfl, hb1⟩
  have HB1 := hid hb1
  clear hb1 CT
  go_wp2_with fail
  go_loopw [12] (fun v wr => ∃ k : Nat, v = .int .i64 (k : Int) /\ k <= n /\ Hid (IdsP ts k) /\ Hid (Below w.heap.size w wr)) (fun v _ => n - (intOf v).toNat)
  case atStart => exact ⟨0, rfl, Nat.zero_le _, idsP_zero ts, HB1.out⟩
  case round =>
   clear HB1
   obtain ⟨k, rfl, hk, HP, HB⟩ := hrel
   by_cases hlt : k < n
   ·have hkn : (k : Int) < (n : Int) := by omega
    have hks : k < ts.length := by rw [HN.out]; exact hlt
    obtain ⟨b, o, aa, ca, rfl, hb, q0, q1, q2, q3, hA⟩ := HR.out.below HB.out k hks
    have h3 := HZ.out _ (List.getElem_mem hks)
    have CV := hid (fun wx (hx : Below wr.heap.size wr wx) => cValueInI aa ca ts[k].attrs idS wx (hA.below hx) h3.2.2.1 h3.2.1 (by decide))
    rw [<- idAt_at hks] at CV
    have HB2 := hid (HB.out.alloc HB.out.size (.cells #[.int .i64 ts[k].kind, .string ts[k].name, .slice aa ts[k].attrs.length ca, .string ts[k].text] 42))
    have CV2 := hid (CV.out _ ((Below.refl wr.heap.size wr).alloc (Nat.le_refl _) (.cells #[.int .i64 ts[k].kind, .string ts[k].name, .slice aa ts[k].attrs.length ca, .string ts[k].text] 42)))
    clear hA h3 CV hb
    generalize ts[k].kind = K at *
    generalize ts[k].name = NM at *
    generalize ts[k].text = TX at *
    generalize ts[k].attrs.length = na at *
    clear hks
    go_wp2_with fail
    refine CV2.out.mono ?_
    rintro e w2 ⟨rfl, hb2⟩
    have HB3 := hid (bb HB2.out hb2)
    clear hb2 CV2 HB2 q0 q1 q2 q3
    cases hv : idAt ts k with
    | none =>
     have HP2 := hid (idsP_none hv HP.out)
     clear hv
     go_wp2_with fail
     go_roundw
     case rel => exact ⟨k + 1, by go_num, by omega, HP2.out, HB3.out⟩
     case measure => simp [intOf]; omega
    | some v =>
     have HVI := hid hv
     have CO := hid (fun wx => cIdOk v wx (CZ.out k v hlt hv))
     have CA := hid (fun wx (h : Below w.heap.size w wx) => CI.out v wx h)
     have HFF := hid (find_first hlt hv)
     clear hv
     generalize findN ts v n = F at *
     cases hok : idOk v with
     | false =>
      have HW := hid (HF.out (idsP_bad HVI.out hlt (.inl hok)))
      rw [hok] at CO
      clear hok
      go_wp2_with fail
      refine (CO.out _).mono ?_
      rintro e w3 ⟨rfl, rfl⟩
      go_wp2_with fail
      go_ret
      exact ⟨by rw [HW.out]; rfl, HB3.out⟩
     | true =>
      have HOK := hid hok
      rw [hok] at CO
      clear hok
      rcases HFF.out with ⟨h1, h2⟩ | ⟨h1, h2⟩
      ·have HP2 := hid (idsP_some HVI.out HP.out HOK.out h2)
       subst h1
       have e1 : ((k : Int) == (k : Int)) = true := by simp
       clear h2
       go_wp2_with fail
       refine (CO.out _).mono ?_
       rintro e w3 ⟨rfl, rfl⟩
       go_wp2_with fail
       refine (CA.out _ HB3.out).mono ?_
       rintro e w4 ⟨rfl, hb4⟩
       have HB4 := hid (bb HB3.out hb4)
       clear hb4
       go_wp2_with fail
       go_roundw
       case rel => exact ⟨k + 1, by go_num, by omega, HP2.out, HB4.out⟩
       case measure => simp [intOf]; omega
      ·have HW := hid (HF.out (idsP_bad HVI.out hlt (.inr h2)))
       have e1 : (F == (k : Int)) = false := by simp; exact h1
       have e2 : (F != (k : Int)) = true := by simp; exact h1
       clear h2 h1
       go_wp2_with fail
       refine (CO.out _).mono ?_
       rintro e w3 ⟨rfl, rfl⟩
       go_wp2_with fail
       refine (CA.out _ HB3.out).mono ?_
       rintro e w4 ⟨rfl, hb4⟩
       have HB4 := hid (bb HB3.out hb4)
       clear hb4
       go_wp2_with fail
       go_ret
       exact ⟨by rw [HW.out]; rfl, HB4.out⟩
   ·have hke : k = n := by omega
    subst hke
    have HW := hid (HT.out HP.out)
    go_wp2_with fail
    go_ret
    exact ⟨by rw [HW.out]; rfl, HB.out⟩

set_option maxHeartbeats 4000000 in
theorem cIdOfI (a : Option Addr) (cap : Nat) (ts : List Tk) (x : Int) (w : World) (hR : TkRow w a ts) (hn : ts.length <= 1048576) (hz : TksSz 1048576 ts) :
  Calls Tryz.prog 37 #[.slice a ts.length cap, .int .i64 x] w fun e w' => e = .returned (.string (idI ts x)) /\ Below w.heap.size w w' := by
 have CH := hid (cThere a cap ts x w hR hn hz)
 have C := hid (fun wx (hb : Below w.heap.size w wx) => cIdsOkI a cap ts wx (hR.below hb) hn hz)
 cases hh : hasB ts x with
 | false =>
  have HE := hid (show idI ts x = ByteArray.empty by
   unfold idI
   refine if_neg (fun h => ?_)
   unfold hasB at hh
   rw [(idsB_t h.1).2, decide_eq_true h.2] at hh
   cases hh)
  rw [HE.out]
  rw [hh] at CH
  clear hh HE hR hz C
  generalize ts.length = n at *
  go_enter Tryz.func37, Tryz.ntmps37
  go_wp2_with fail
  refine CH.out.mono ?_
  rintro e w1 ⟨rfl, hb1⟩
  have HB1 := hid hb1
  clear hb1 CH
  go_wp2_with fail
  go_ret
  exact ⟨rfl, HB1.out⟩
 | true =>
  rw [hh] at CH
  obtain ⟨hT, k, rfl, hk⟩ := hasB_t hh
  cases hi : idsB ts with
  | false =>
   have HE := hid (show idI ts (k : Int) = ByteArray.empty by
    unfold idI
    refine if_neg (fun h => ?_)
    rw [hi] at h
    cases h.1)
   rw [HE.out]
   rw [hi] at C
   clear hh HE hR hz hi hT
   generalize ts.length = n at *
   go_enter Tryz.func37, Tryz.ntmps37
   go_wp2_with fail
   refine CH.out.mono ?_
   rintro e w1 ⟨rfl, hb1⟩
   have HB1 := hid hb1
   clear hb1 CH
   go_wp2_with fail
   refine (C.out _ HB1.out).mono ?_
   rintro e w2 ⟨rfl, hb2⟩
   have HB2 := hid (bb HB1.out hb2)
   clear hb2 C
   go_wp2_with fail
   go_ret
   exact ⟨rfl, HB2.out⟩
  | true =>
   have HE := hid (show idI ts (k : Int) = (idAt ts k).getD ByteArray.empty by
    unfold idI
    rw [if_pos ⟨hi, by omega, by omega⟩]
    rfl)
   rw [HE.out]
   rw [hi] at C
   have HR := hid (fun wx (hb : Below w.heap.size w wx) => ats_row (hR.below hb) hk)
   have h3 := hz _ (List.getElem_mem hk)
   have CV := hid (fun aa ca wx (hA : AtRow wx aa ts[k].attrs) => cValueInI aa ca ts[k].attrs idS wx hA h3.2.2.1 h3.2.1 (by decide))
   rw [<- idAt_at hk] at CV
   have hkn : (k : Int) < (ts.length : Int) := by omega
   clear hh HE hR hz hi hT h3
   generalize idAt ts k = I at *
   generalize ts[k].attrs = L at *
   generalize ts.length = n at *
   go_enter Tryz.func37, Tryz.ntmps37
   go_wp2_with fail
   refine CH.out.mono ?_
   rintro e w1 ⟨rfl, hb1⟩
   have HB1 := hid hb1
   clear hb1 CH
   go_wp2_with fail
   refine (C.out _ HB1.out).mono ?_
   rintro e w2 ⟨rfl, hb2⟩
   have HB2 := hid (bb HB1.out hb2)
   clear hb2 C
   obtain ⟨b, o, aa, ca, rfl, c2, hA⟩ := HR.out _ HB2.out
   have CV2 := hid (CV.out aa ca _ hA)
   clear hA CV HR
   generalize L.length = na at *
   go_wp2_with fail
   refine CV2.out.mono ?_
   rintro e w3 ⟨rfl, hb3⟩
   have HB3 := hid (bb HB2.out hb3)
   clear hb3 CV2 c2
   go_wp2_with fail
   go_ret
   exact ⟨rfl, HB3.out⟩

end Go.Proofs.YtlpbbkaelbafdaaGreatDoor

namespace Go.Proofs.YtlpbbkaelbafdaaGreatDoor
open Go.RowKit

def inWB (c : Int) : Bool := (decide (97 <= c) && decide (c <= 122)) || (decide (65 <= c) && decide (c <= 90)) || (decide (48 <= c) && decide (c <= 57)) || decide (c = 46) || decide (c = 64)

theorem inWB_all : ∀ n : Fin 256, inB wordLS (UInt8.ofNat n.val) = inWB (n.val : Int) := by decide +kernel

theorem inWB_is (c : UInt8) : inB wordLS c = inWB c.toNat := by
 have h := inWB_all ⟨c.toNat, c.toNat_lt⟩
 have e : UInt8.ofNat c.toNat = c := by simp
 rw [e] at h
 exact h

set_option maxHeartbeats 1000000 in
theorem cInWord (c : Int) (w : World) (h0 : 0 <= c) (h1 : c <= 255) :
  Calls Tryz.prog 99 #[.int .u8 c] w fun e w' => e = .returned (.bool (inWB c)) /\ w' = w := by
 go_enter Tryz.func99, Tryz.ntmps99
 go_wp2_with (first | (go_at_call 137; refine (c__impl_sign__letter _ _ h0 h1).mono ?_; rintro e w' ⟨rfl, rfl⟩) | (go_at_call 136; refine (cDigit _ _ h0 h1).mono ?_; rintro e w' ⟨rfl, rfl⟩))
 all_goals go_ret
 all_goals exact ⟨ret_bool (by rw [Bool.eq_iff_iff]; simp_all [inWB, letB]; try omega), rfl⟩

def allWd (l : List UInt8) : Bool := l.all fun c => inWB c.toNat

theorem allWd_is (l : List UInt8) : (l.all fun c => wordLS.data.toList.any fun d => decide (d = c)) = allWd l := by
 unfold allWd
 congr 1
 funext c
 exact inWB_is c

theorem allWd_snoc (s : ByteArray) (k : Nat) (h : k < s.size) : allWd (s.data.toList.take (k + 1)) = (allWd (s.data.toList.take k) && inWB s[k].toNat) := by
 unfold allWd
 rw [take_snoc s k h, List.all_append]
 simp

theorem allWd_no (s : ByteArray) (k : Nat) (h : k < s.size) (hc : inWB s[k].toNat = false) : allWd s.data.toList = false := by
 cases hA : allWd s.data.toList with
 | false => rfl
 | true =>
  have := List.all_eq_true.1 hA s[k] (List.getElem_mem _)
  rw [hc] at this
  cases this

set_option maxHeartbeats 1000000 in
theorem cAllWord (s : ByteArray) (w : World) (hs : s.size <= 1048576) :
  Calls Tryz.prog 97 #[.string s, .func (.func 99) #[] #[]] w fun e w' => e = .returned (.bool (allWd s.data.toList)) /\ w' = w := by
 go_enter Tryz.func97, Tryz.ntmps97
 go_wp2
 go_loop [8] (fun i => ∃ k : Nat, k <= s.size /\ i = .int .i64 k /\ Hid (allWd (s.data.toList.take k) = true)) (fun i => s.size - (intOf i).toNat)
 case atStart => exact ⟨0, Nat.zero_le _, rfl, rfl⟩
 case round =>
  obtain ⟨k, hk, rfl, HP⟩ := hrel
  by_cases hlt : k < s.size
  ·have hb : (s[k].toNat : Int) <= 255 := by have := s[k].toNat_lt; omega
   cases hc : inWB s[k].toNat
   ·go_wp2_with (go_at_call 99; refine (cInWord _ _ (by omega) hb).mono ?_; rintro e w' ⟨rfl, rfl⟩)
    go_ret
    exact ⟨ret_bool (allWd_no s k hlt hc).symm, rfl⟩
   ·go_wp2_with (go_at_call 99; refine (cInWord _ _ (by omega) hb).mono ?_; rintro e w' ⟨rfl, rfl⟩)
    go_round
    case rel => exact ⟨k + 1, by omega, by go_num, by show allWd _ = true; rw [allWd_snoc s k hlt, HP.out, hc]; rfl⟩
    case measure => simp [intOf]; omega
  ·go_wp2
   go_ret
   exact ⟨ret_bool (by rw [<- take_full s k hlt]; exact HP.out.symm), rfl⟩

theorem wordB_is (s : ByteArray) : wordB s = (decide (1 <= s.size) && (decide (s.size <= 20) && allWd s.data.toList)) := by
 unfold wordB ofB
 rw [allWd_is, Bool.and_comm (allWd s.data.toList)]
 have e : (!decide (s.size = 0)) = decide (1 <= s.size) := by
  by_cases h : s.size = 0
  ·rw [decide_eq_true h, decide_eq_false (show ¬ 1 <= s.size by omega)]; rfl
  ·rw [decide_eq_false h, decide_eq_true (show 1 <= s.size by omega)]; rfl
 rw [e]

set_option maxHeartbeats 2000000 in
theorem cWordOk (s : ByteArray) (w : World) (hs : s.size <= 1048576) :
  Calls Tryz.prog 43 #[.string s] w fun e w' => e = .returned (.bool (wordB s)) /\ w' = w := by
 have C := hid (fun wx => cAllWord s wx hs)
 rw [wordB_is]
 generalize allWd s.data.toList = M at *
 by_cases h1 : 1 <= s.size
 ·rw [decide_eq_true h1]
  have h1' : (1 : Int) <= (s.size : Int) := by omega
  by_cases h12 : s.size <= 20
  ·rw [decide_eq_true h12]
   have h12' : (s.size : Int) <= 20 := by omega
   go_enter Tryz.func43, Tryz.ntmps43
   go_wp2_with fail
   refine (C.out _).mono ?_
   rintro e w1 ⟨rfl, rfl⟩
   go_wp2_with fail
   go_ret
   exact ⟨by simp, rfl⟩
  ·rw [decide_eq_false h12]
   have h12' : ¬ (s.size : Int) <= 20 := by omega
   go_enter Tryz.func43, Tryz.ntmps43
   go_wp2_with fail
   go_ret
   exact ⟨by simp, rfl⟩
 ·rw [decide_eq_false h1]
  have h1' : ¬ (1 : Int) <= (s.size : Int) := by omega
  go_enter Tryz.func43, Tryz.ntmps43
  go_wp2_with fail
  go_ret
  exact ⟨by simp, rfl⟩

theorem cGap (c : Int) (w : World) (h0 : 0 <= c) (h1 : c <= 255) :
  Calls Tryz.prog 139 #[.int .u8 c] w fun e w' => e = .returned (.bool (gapB c)) /\ w' = w := by
 go_enter Tryz.func139, Tryz.ntmps139
 go_wp2
 all_goals go_ret
 all_goals exact ⟨ret_boolE (by rw [Bool.eq_iff_iff]; simp [gapB]; try omega), rfl⟩

set_option maxHeartbeats 4000000 in
theorem cFactValue (s : ByteArray) (w : World) (hs : s.size <= 1048576) :
  Calls Tryz.prog 100 #[.string s] w fun e w' => e = .returned (.bool (fvalB s)) /\ w' = w := by
 have C := hid (fun wx => c_impl_PlainOk s wx (by unfold maxLen; omega))
 by_cases h1 : 1 <= s.size
 ·have g1 : decide ((s.size : Int) < 1) = false := by simp; omega
  by_cases h30 : s.size <= 30
  ·have g2 : decide ((30 : Int) < (s.size : Int)) = false := by simp; omega
   obtain ⟨m, hm⟩ : ∃ m, s.size = m + 1 := ⟨s.size - 1, by omega⟩
   have hml : m < s.size := by omega
   have h0l : 0 < s.size := by omega
   rw [fval_is hm h30 h0l hml]
   have hms : (s.size : Int) - 1 = (m : Int) := by omega
   have r0 : ((s[0]'h0l).toNat : Int) <= 255 := by have := (s[0]'h0l).toNat_lt; omega
   have r1 : ((s[m]'hml).toNat : Int) <= 255 := by have := (s[m]'hml).toNat_lt; omega
   have CB0 := hid (fun wx => cGap ((s[0]'h0l).toNat : Int) wx (by omega) r0)
   have CB1 := hid (fun wx => cGap ((s[m]'hml).toNat : Int) wx (by omega) r1)
   generalize plainL s.data.toList = p1 at *
   obtain ⟨g3, hg3⟩ : ∃ g0, gapB ((s[0]'h0l).toNat : Int) = g0 := ⟨_, rfl⟩
   obtain ⟨g4, hg4⟩ : ∃ g1, gapB ((s[m]'hml).toNat : Int) = g1 := ⟨_, rfl⟩
   rw [hg3, hg4]
   rw [hg3] at CB0
   rw [hg4] at CB1
   clear hg3 hg4 r0 r1 hm
   go_enter Tryz.func100, Tryz.ntmps100
   go_wp2_with fail
   refine (C.out _).mono ?_
   rintro e w1 ⟨rfl, rfl⟩
   cases p1 with
   | false =>
    go_wp2_with fail
    go_ret
    exact ⟨rfl, rfl⟩
   | true =>
   go_wp2_with fail
   refine (CB0.out _).mono ?_
   rintro e w1 ⟨rfl, rfl⟩
   cases g3 with
   | true =>
    go_wp2_with fail
    go_ret
    exact ⟨rfl, rfl⟩
   | false =>
   go_wp2_with fail
   refine (CB1.out _).mono ?_
   rintro e w1 ⟨rfl, rfl⟩
   go_wp2_with fail
   go_ret
   exact ⟨by simp, rfl⟩
  ·have g2 : decide ((30 : Int) < (s.size : Int)) = true := by simp; omega
   rw [fval_no (by omega)]
   go_enter Tryz.func100, Tryz.ntmps100
   go_wp2_with fail
   go_ret
   exact ⟨rfl, rfl⟩
 ·have g1 : decide ((s.size : Int) < 1) = true := by simp; omega
  rw [fval_no (by omega)]
  go_enter Tryz.func100, Tryz.ntmps100
  go_wp2_with fail
  go_ret
  exact ⟨rfl, rfl⟩

theorem idx_first {l : List At} {i : Nat} (hi : i < l.length) {r : Int} (h : IdxIs l l[i].name r) : (r = (i : Int) /\ ∀ k, ∀ hk : k < l.length, k < i -> ¬ l[k].name = l[i].name) \/ (¬ r = (i : Int) /\ ∃ k, ∃ hk : k < l.length, k < i /\ l[k].name = l[i].name) := by
 rcases h with ⟨rfl, h⟩ | ⟨j, hj, rfl, h1, h2⟩
 ·exact absurd rfl (h _ (List.getElem_mem hi))
 ·have hji : ¬ i < j := fun h => h2 l[i] (by rw [List.mem_take_iff_getElem]; exact ⟨i, by omega, rfl⟩) rfl
  rcases Nat.lt_or_eq_of_le (Nat.le_of_not_lt hji) with h' | h'
  ·exact .inr ⟨by omega, j, hj, h', h1⟩
  ·subst h'
   refine .inl ⟨rfl, fun k hk hlt => h2 _ ?_⟩
   rw [List.mem_take_iff_getElem]
   exact ⟨k, by omega, rfl⟩

set_option maxRecDepth 8000 in
set_option maxHeartbeats 8000000 in
theorem cFactsOk (a : Option Addr) (cap : Nat) (L : List At) (w : World) (hR : AtRow w a L) (hn : L.length <= 1048576) (hz : AtSz 1048576 L) :
  Calls Tryz.prog 45 #[.slice a L.length cap] w fun e w' => e = .returned (.bool (factsB L)) /\ Below w.heap.size w w' := by
 have HR := hid hR
 have HZ := hid hz
 obtain ⟨FB, hFB⟩ : ∃ FB, factsB L = FB := ⟨_, rfl⟩
 have HFB := hid hFB
 rw [hFB]
 clear hR hz hFB
 obtain ⟨n, hnn⟩ : ∃ n, L.length = n := ⟨_, rfl⟩
 have HN := hid hnn
 rw [hnn] at hn ⊢
 clear hnn
 by_cases h4 : n <= 4
 case neg =>
  have HE := hid (show FB = false by rw [<- HFB.out]; exact factsB_4 (by rw [HN.out]; omega))
  have g4 : decide ((4 : Int) < (n : Int)) = true := by simp; omega
  go_enter Tryz.func45, Tryz.ntmps45
  go_wp2_with fail
  go_ret
  exact ⟨by rw [HE.out]; rfl, Below.refl _ _⟩
 have g4 : decide ((4 : Int) < (n : Int)) = false := by simp; omega
 go_enter Tryz.func45, Tryz.ntmps45
 go_wp2_with fail
 go_loopw [10] (fun v wr => ∃ i : Nat, v = .int .i64 (i : Int) /\ i <= n /\ Hid (FactsP L i) /\ Hid (Below w.heap.size w wr)) (fun v _ => n - (intOf v).toNat)
 case atStart => exact ⟨0, rfl, Nat.zero_le _, factsP_zero L, Below.refl _ _⟩
 case round =>
  obtain ⟨i, rfl, hin, HP, HB⟩ := hrel
  by_cases hlt : i < n
  ·have his : i < L.length := by rw [HN.out]; exact hlt
   have hit : (i : Int) < (n : Int) := by omega
   obtain ⟨b, o, rfl, hb, c1, c2⟩ := HR.out.below HB.out i his
   have hz1 := HZ.out _ (List.getElem_mem his)
   have CN := hid (fun wx => cWordOk L[i].name wx hz1.1)
   have CV := hid (fun wx => cFactValue L[i].value wx hz1.2)
   have CA := hid (fun wx (h : Below w.heap.size w wx) => cAttrAt (some ⟨b, o, none⟩) cap L L[i].name wx (HR.out.below h) HZ.out (by rw [HN.out]; exact hn) hz1.1)
   have HID := hid (fun r (h : IdxIs L L[i].name r) => idx_first his h)
   have HBAD : Hid (wordB L[i].name = false \/ fvalB L[i].value = false \/ (∃ k, ∃ hk : k < L.length, k < i /\ L[k].name = L[i].name) -> FB = false) := fun h => by
    rw [<- HFB.out]
    refine factsB_f his (fun hP => ?_)
    rcases h with h | h | ⟨k, hk, hki, h⟩
    ·rw [hP.1] at h; cases h
    ·rw [hP.2.1] at h; cases h
    ·exact hP.2.2 k hki h
   have HGO : Hid (wordB L[i].name = true -> fvalB L[i].value = true -> (∀ k, ∀ hk : k < L.length, k < i -> ¬ L[k].name = L[i].name) -> FactsP L (i + 1)) := fun h1 h2 h3 => factsP_next HP.out his ⟨h1, h2, fun k hk => h3 k _ hk⟩
   clear hz1
   generalize L[i].name = nm at *
   generalize L[i].value = vl at *
   rw [HN.out] at CA
   clear his
   have HBX := hid ((Below.refl wr.heap.size wr).alloc (Nat.le_refl _) (.cells #[.string nm, .string vl] 40))
   have bx := box_two wr (.string nm) (.string vl) 40
   obtain ⟨w0, hw0⟩ : ∃ w0, wr.alloc (.cells #[.string nm, .string vl] 40) = w0 := ⟨_, rfl⟩
   rw [hw0] at HBX bx
   obtain ⟨bx1, bx2, bx3⟩ := bx
   have HB0 := hid (bb HB.out HBX.out)
   have HBX3 := hid bx3
   clear bx3
   cases hwd : wordB nm with
   | false =>
    have HE := hid (HBAD.out (.inl hwd))
    rw [hwd] at CN
    clear hwd
    go_wp2_with fail
    refine (CN.out _).mono ?_
    rintro e w1 ⟨rfl, rfl⟩
    go_wp2_with fail
    go_ret
    exact ⟨by rw [HE.out]; rfl, HB0.out⟩
   | true =>
   have HWD := hid hwd
   rw [hwd] at CN
   clear hwd
   cases hvd : fvalB vl with
   | false =>
    have HE := hid (HBAD.out (.inr (.inl hvd)))
    rw [hvd] at CV
    clear hvd
    go_wp2_with fail
    refine (CN.out _).mono ?_
    rintro e w1 ⟨rfl, rfl⟩
    go_wp2_with fail
    refine (CV.out _).mono ?_
    rintro e w1 ⟨rfl, rfl⟩
    go_wp2_with fail
    go_ret
    exact ⟨by rw [HE.out]; rfl, HB0.out⟩
   | true =>
   have HVD := hid hvd
   rw [hvd] at CV
   clear hvd
   go_wp2_with fail
   refine (CN.out _).mono ?_
   rintro e w1 ⟨rfl, rfl⟩
   go_wp2_with fail
   refine (CV.out _).mono ?_
   rintro e w1 ⟨rfl, rfl⟩
   go_wp2_with fail
   refine (CA.out _ HB0.out).mono ?_
   rintro e w2 ⟨r, rfl, hr, hb2⟩
   have HB2 := hid (bb HB0.out hb2)
   have HR2 := hid (HID.out r hr)
   clear hb2 hr hw0 bx1 bx2 c1 c2
   rcases HR2.out with ⟨rfl, h⟩ | ⟨h0, h⟩
   ·have HF1 := hid (HGO.out HWD.out HVD.out h)
    have e1 : ((i : Int) == (i : Int)) = true := by simp
    clear h
    go_wp2_with fail
    go_roundw
    case rel => exact ⟨i + 1, by go_num, by omega, HF1.out, HB2.out⟩
    case measure => simp [intOf]; omega
   ·have HE := hid (HBAD.out (.inr (.inr h)))
    have e1 : (r == (i : Int)) = false := by simp; exact h0
    have e2 : (r != (i : Int)) = true := by simp; exact h0
    clear h h0
    go_wp2_with fail
    go_ret
    exact ⟨by rw [HE.out]; rfl, HB2.out⟩
  ·have hie : i = n := by omega
   subst hie
   have HE := hid (show FB = true from by rw [<- HFB.out]; exact factsB_t (by rw [HN.out]; exact h4) (by rw [HN.out]; exact HP.out))
   go_wp2_with fail
   go_ret
   exact ⟨by rw [HE.out]; rfl, HB.out⟩

end Go.Proofs.YtlpbbkaelbafdaaGreatDoor

namespace Go.Proofs.YtlpbbkaelbafdaaGreatDoor
open Go.RowKit

set_option maxRecDepth 8000 in
set_option maxHeartbeats 8000000 in
theorem cClaimOkI (c : Cm) (a : Option Addr) (cap : Nat) (w : World) (hR : AtRow w a c.facts) (hz : CmSz 1048576 c) :
  Calls Tryz.prog 13 #[cmV c a cap] w fun e w' => e = .returned (.bool (claimB c)) /\ Below w.heap.size w w' := by
 obtain ⟨z1, z2, z3, z4, z5, z6, z7⟩ := hz
 have C1 := hid (fun wx => cIdOk c.id wx z1)
 have C2 := hid (fun wx => cWordOk c.iss wx z2)
 have C3 := hid (fun wx => cWordOk c.sub wx z3)
 have C4 := hid (fun wx => cWordOk c.whom wx z4)
 have C5 := hid (fun wx => cIdOk c.ans wx z5)
 have C6 := hid (fun wx => cTimeI c.frm wx)
 have C7 := hid (fun wx => cTimeI c.til wx)
 have C8 := hid (fun wx (h : Below w.heap.size w wx) => cFactsOk a cap c.facts wx (hR.below h) z6 z7)
 have E := empty_is c.ans
 have HX := hid (ClBox.new w c (.slice a c.facts.length cap) 26)
 have HB0 := hid ((Below.refl w.heap.size w).alloc (Nat.le_refl _) (.cells #[.string c.id, .string c.iss, .string c.sub, .int .i64 c.frm, .int .i64 c.til, .string c.whom, .string c.ans, .slice a c.facts.length cap] 26))
 unfold cmV claimB
 change Hid (∀ wx, Calls Tryz.prog 44 #[.int .i64 c.frm] wx fun e w' => e = .returned (.bool (timeB c.frm)) /\ w' = wx) at C6
 change Hid (∀ wx, Calls Tryz.prog 44 #[.int .i64 c.til] wx fun e w' => e = .returned (.bool (timeB c.til)) /\ w' = wx) at C7
 obtain ⟨w0, hw0⟩ : ∃ w0, w.alloc (.cells #[.string c.id, .string c.iss, .string c.sub, .int .i64 c.frm, .int .i64 c.til, .string c.whom, .string c.ans, .slice a c.facts.length cap] 26) = w0 := ⟨_, rfl⟩
 rw [hw0] at HX HB0
 clear hR z1 z2 z3 z4 z5 z7
 obtain ⟨B, hB⟩ : ∃ B, w.heap.size = B := ⟨_, rfl⟩
 rw [hB] at HX
 obtain ⟨f0, f1, f2, f3, f4, f5, f6, f7⟩ := And.intro HX.out.c0 (And.intro HX.out.c1 (And.intro HX.out.c2 (And.intro HX.out.c3 (And.intro HX.out.c4 (And.intro HX.out.c5 (And.intro HX.out.c6 HX.out.c7))))))
 generalize idOk c.id = b1 at *
 generalize wordB c.iss = b2 at *
 generalize wordB c.sub = b3 at *
 generalize wordB c.whom = b4 at *
 generalize idOk c.ans = b5 at *
 generalize decide (c.ans.size = 0) = b0 at *
 generalize timeB c.frm = b6 at *
 generalize timeB c.til = b7 at *
 generalize factsB c.facts = b8 at *
 generalize c.facts.length = n at *
 go_enter Tryz.func13, Tryz.ntmps13
 go_wp2_with fail
 refine (C1.out _).mono ?_
 rintro e w1 ⟨rfl, rfl⟩
 cases b1 with
 | false =>
  go_wp2_with fail
  go_ret
  exact ⟨by simp, hB ▸ HB0.out⟩
 | true =>
 go_wp2_with fail
 refine (C2.out _).mono ?_
 rintro e w1 ⟨rfl, rfl⟩
 cases b2 with
 | false =>
  go_wp2_with fail
  go_ret
  exact ⟨by simp, hB ▸ HB0.out⟩
 | true =>
 go_wp2_with fail
 refine (C3.out _).mono ?_
 rintro e w1 ⟨rfl, rfl⟩
 cases b3 with
 | false =>
  go_wp2_with fail
  go_ret
  exact ⟨by simp, hB ▸ HB0.out⟩
 | true =>
 go_wp2_with fail
 refine (C4.out _).mono ?_
 rintro e w1 ⟨rfl, rfl⟩
 cases b4 with
 | false =>
  go_wp2_with fail
  go_ret
  exact ⟨by simp, hB ▸ HB0.out⟩
 | true =>
 go_wp2_with fail
 refine (C6.out _).mono ?_
 rintro e w1 ⟨rfl, rfl⟩
 cases b6 with
 | false =>
  go_wp2_with fail
  go_ret
  exact ⟨by simp, hB ▸ HB0.out⟩
 | true =>
 go_wp2_with fail
 refine (C7.out _).mono ?_
 rintro e w1 ⟨rfl, rfl⟩
 cases b7 with
 | false =>
  go_wp2_with fail
  go_ret
  exact ⟨by simp, hB ▸ HB0.out⟩
 | true =>
 cases b0 with
 | true =>
  go_wp2_with fail
  refine (C8.out _ HB0.out).mono ?_
  rintro e w2 ⟨rfl, hb2⟩
  have HB2 := hid (bb HB0.out hb2)
  clear hb2 hw0 f0 f1 f2 f3 f4 f5 f6 f7
  go_wp2_with fail
  go_ret
  exact ⟨by simp, hB ▸ HB2.out⟩
 | false =>
  go_wp2_with fail
  refine (C5.out _).mono ?_
  rintro e w1 ⟨rfl, rfl⟩
  cases b5 with
  | false =>
   go_wp2_with fail
   go_ret
   exact ⟨by simp, hB ▸ HB0.out⟩
  | true =>
  go_wp2_with fail
  refine (C8.out _ HB0.out).mono ?_
  rintro e w2 ⟨rfl, hb2⟩
  have HB2 := hid (bb HB0.out hb2)
  clear hb2 hw0 f0 f1 f2 f3 f4 f5 f6 f7
  go_wp2_with fail
  go_ret
  exact ⟨by simp, hB ▸ HB2.out⟩

end Go.Proofs.YtlpbbkaelbafdaaGreatDoor

namespace Go.Proofs.YtlpbbkaelbafdaaGreatDoor
open Go.RowKit

theorem localN_small (q : Nat) : (localN q).size <= 1048576 := by
 unfold localN
 split
 all_goals decide

set_option maxRecDepth 8000 in
set_option maxHeartbeats 16000000 in
theorem cDecodedI (a : Option Addr) (cap : Nat) (ts : List Tk) (x : Int) (w : World) (hR : TkRow w a ts) (hn : ts.length <= 1048576) (hz : TksSz 1048576 ts) (hL : Laid w) :
  Calls Tryz.prog 8 #[.slice a ts.length cap, .int .i64 x] w (DecAns w (qdV ts x) (qdI ts x)) := by
 have CN := hid (fun wx (h : Below w.heap.size w wx) => cNamesOkI a cap ts wx (hR.below h) hn hz)
 have CI := hid (fun wx (h : Below w.heap.size w wx) => cIdsOkI a cap ts wx (hR.below h) hn hz)
 have CK := hid (fun wx (h : Below w.heap.size w wx) => cKnownI a cap ts x (⟨#[67, 108, 97, 105, 109]⟩ : ByteArray) claimS wx (hR.below h) hn hz (by decide) (by decide))
 have HB0 := hid ((Below.refl w.heap.size w).alloc (Nat.le_refl _) (.cells #[.string ⟨#[]⟩, .string ⟨#[]⟩, .string ⟨#[]⟩, .int .i64 0, .int .i64 0, .string ⟨#[]⟩, .string ⟨#[]⟩, .slice none 0 0] 26))
 have M4 := hid (heap_alloc_new w (.cells #[.string ⟨#[]⟩, .string ⟨#[]⟩, .string ⟨#[]⟩, .int .i64 0, .int .i64 0, .string ⟨#[]⟩, .string ⟨#[]⟩, .slice none 0 0] 26))
 have HNX := hid (@qdI_no ts x)
 have HR := hid hR
 have HZ := hid hz
 cases h1 : namesB ts with
 | false =>
  have HNO := hid (HNX.out (by rw [h1]; exact fun h => by cases h.1))
  rw [h1] at CN
  clear h1 hR hz
  generalize ts.length = n at *
  go_enter Tryz.func8, Tryz.ntmps8
  go_wp2_with fail
  refine (CN.out _ HB0.out).mono ?_
  rintro e w1 ⟨rfl, hb1⟩
  have BB := hid (bb HB0.out hb1)
  have MM := hid (blk_below M4.out hb1)
  clear hb1
  obtain ⟨⟨y0, y1, y2, y3, y4, y5, y6, y7⟩, yf0, yf1, yf2, yf3, yf4, yf5, yf6, yf7⟩ := box8 MM.out
  go_wp2_with fail
  refine bodyPost_ret (v := .tuple #[.agg #[.string ⟨#[]⟩, .string ⟨#[]⟩, .string ⟨#[]⟩, .int .i64 0, .int .i64 0, .string ⟨#[]⟩, .string ⟨#[]⟩, .slice none 0 0], .bool false]) (by simp [results, Tryz.results8, go_sem, y0, y1, y2, y3, y4, y5, y6, y7]) rfl ⟨none, 0, ?_, ?_, ?_⟩
  ·rw [HNO.out, qdV_no HNO.out]
   rfl
  ·rw [qdV_no HNO.out]
   exact fun hl => absurd hl (Nat.lt_irrefl 0)
  ·iterate 8 refine Below.setCell ?_ (show w.heap.size <= w.heap.size from Nat.le_refl _) _
   exact BB.out
 | true =>
 have HN1 := hid h1
 rw [h1] at CN
 cases h2 : idsB ts with
 | false =>
  have HNO := hid (HNX.out (by rw [h2]; exact fun h => by cases h.2.1))
  rw [h2] at CI
  clear h1 h2 hR hz
  generalize ts.length = n at *
  go_enter Tryz.func8, Tryz.ntmps8
  go_wp2_with fail
  refine (CN.out _ HB0.out).mono ?_
  rintro e w1 ⟨rfl, hb1⟩
  have HB1 := hid (bb HB0.out hb1)
  have M1 := hid (blk_below M4.out hb1)
  clear hb1
  go_wp2_with fail
  refine (CI.out _ HB1.out).mono ?_
  rintro e w2 ⟨rfl, hb2⟩
  have BB := hid (bb HB1.out hb2)
  have MM := hid (blk_below M1.out hb2)
  clear hb2
  obtain ⟨⟨y0, y1, y2, y3, y4, y5, y6, y7⟩, yf0, yf1, yf2, yf3, yf4, yf5, yf6, yf7⟩ := box8 MM.out
  go_wp2_with fail
  refine bodyPost_ret (v := .tuple #[.agg #[.string ⟨#[]⟩, .string ⟨#[]⟩, .string ⟨#[]⟩, .int .i64 0, .int .i64 0, .string ⟨#[]⟩, .string ⟨#[]⟩, .slice none 0 0], .bool false]) (by simp [results, Tryz.results8, go_sem, y0, y1, y2, y3, y4, y5, y6, y7]) rfl ⟨none, 0, ?_, ?_, ?_⟩
  ·rw [HNO.out, qdV_no HNO.out]
   rfl
  ·rw [qdV_no HNO.out]
   exact fun hl => absurd hl (Nat.lt_irrefl 0)
  ·iterate 8 refine Below.setCell ?_ (show w.heap.size <= w.heap.size from Nat.le_refl _) _
   exact BB.out
 | true =>
 have HI1 := hid h2
 rw [h2] at CI
 cases h3 : knownI ts x (⟨#[67, 108, 97, 105, 109]⟩ : ByteArray) claimS with
 | false =>
  have HNO := hid (qd_known h1 h2 h3)
  rw [h3] at CK
  clear h1 h2 h3 hR hz
  unfold claimS at CK
  generalize ts.length = n at *
  go_enter Tryz.func8, Tryz.ntmps8
  go_wp2_with fail
  refine (CN.out _ HB0.out).mono ?_
  rintro e w1 ⟨rfl, hb1⟩
  have HB1 := hid (bb HB0.out hb1)
  have M1 := hid (blk_below M4.out hb1)
  clear hb1
  go_wp2_with fail
  refine (CI.out _ HB1.out).mono ?_
  rintro e w2 ⟨rfl, hb2⟩
  have HB2 := hid (bb HB1.out hb2)
  have M2 := hid (blk_below M1.out hb2)
  clear hb2
  go_wp2_with fail
  refine (CK.out _ HB2.out).mono ?_
  rintro e w3 ⟨rfl, hb3⟩
  have BB := hid (bb HB2.out hb3)
  have MM := hid (blk_below M2.out hb3)
  clear hb3
  obtain ⟨⟨y0, y1, y2, y3, y4, y5, y6, y7⟩, yf0, yf1, yf2, yf3, yf4, yf5, yf6, yf7⟩ := box8 MM.out
  go_wp2_with fail
  refine bodyPost_ret (v := .tuple #[.agg #[.string ⟨#[]⟩, .string ⟨#[]⟩, .string ⟨#[]⟩, .int .i64 0, .int .i64 0, .string ⟨#[]⟩, .string ⟨#[]⟩, .slice none 0 0], .bool false]) (by simp [results, Tryz.results8, go_sem, y0, y1, y2, y3, y4, y5, y6, y7]) rfl ⟨none, 0, ?_, ?_, ?_⟩
  ·rw [HNO.out, qdV_no HNO.out]
   rfl
  ·rw [qdV_no HNO.out]
   exact fun hl => absurd hl (Nat.lt_irrefl 0)
  ·iterate 8 refine Below.setCell ?_ (show w.heap.size <= w.heap.size from Nat.le_refl _) _
   exact BB.out
 | true =>
 have hel : elemB ts x = true := by
  have h := h3
  unfold knownI at h
  rw [Bool.and_eq_true] at h
  exact h.1
 obtain ⟨hT, k, rfl, hk⟩ := elemB_t hel
 have hTB := (idsB_t h2).2
 have HKN := hid (known_kid hTB hk (⟨#[67, 108, 97, 105, 109]⟩ : ByteArray) ▸ h3)
 obtain ⟨e1, e2⟩ := qdI_yes h1 h2 hk
 rw [h3] at CK
 unfold claimS at CK
 have CD := hid (fun wx (h : Below w.heap.size w wx) => cIdOfI a cap ts (k : Int) wx (hR.below h) hn hz)
 rw [idI_is h2 hk] at CD
 have CKK := hid cKidKinds
 have CS := hid (fun (q : Nat) (wx : World) (h : Below w.heap.size w wx) => cSayingsIn a cap ts k (localN q) w wx hR h hTB hk hn hz (localN_small q))
 have HLD := hid hL
 have HSZ := hid (fun (h : ∀ q, q < 6 -> decX ts k q = true) => decC_sz hT hz h)
 have HSS := hid (fun (q : Nat) => say_sz (ts := ts) hz (k := k) (loc := localN q))
 have HFA := hid (decC_facts ts k)
 have HSU := hid (decC_succ ts k)
 have HSL := hid (fun (q : Nat) => show (sayL ts (kidsK ts k (localN q))).length <= 900 by rw [sayL_len]; have := kidsK_len ts k (localN q); have := hT.2.1; omega)
 have HNOT := hid (@qdB_not ts k)
 have HIS := hid (fun (h : ∀ q, q < 6 -> decX ts k q = true) (hc : claimB (decC ts k 6) = true) => qdB_is HKN.out h hc)
 rw [e1, e2]
 have HDX := hid (show ∀ q, decX ts k q = allB q (leN q) (moN q) (sayL ts (kidsK ts k (localN q))) from fun q => rfl)
 have HC0 := hid (decC_zero ts k)
 generalize (valF (atN ts k) idS).getD ByteArray.empty = idv at *
 obtain ⟨DC, hDC⟩ : ∃ DC : Nat -> Cm, decC ts k = DC := ⟨_, rfl⟩
 obtain ⟨DX, hDX⟩ : ∃ DX : Nat -> Bool, decX ts k = DX := ⟨_, rfl⟩
 obtain ⟨SL, hSL⟩ : ∃ SL : Nat -> List Say, (fun q => sayL ts (kidsK ts k (localN q))) = SL := ⟨_, rfl⟩
 have hSL' : ∀ q, sayL ts (kidsK ts k (localN q)) = SL q := fun q => congrFun hSL q
 simp only [hSL'] at CS HSS HSU HSL HDX
 simp only [hDC] at HSZ HFA HSU HNOT HIS HC0
 simp only [hDX] at HSZ HNOT HIS HDX
 generalize qdA ts k = QA at *
 generalize qdB ts k = QB at *
 generalize ts.length = n at *
 clear h1 h2 h3 hR hz hel hT hTB e1 e2 hL hSL hSL' hDC hDX HKN HR HZ HNX HN1 HI1 hk
 go_enter Tryz.func8, Tryz.ntmps8
 go_wp2_with fail
 refine (CN.out _ HB0.out).mono ?_
 rintro e w1 ⟨rfl, hb1⟩
 have HB1 := hid (bb HB0.out hb1)
 have M1 := hid (blk_below M4.out hb1)
 clear hb1
 go_wp2_with fail
 refine (CI.out _ HB1.out).mono ?_
 rintro e w2 ⟨rfl, hb2⟩
 have HB2 := hid (bb HB1.out hb2)
 have M2 := hid (blk_below M1.out hb2)
 clear hb2
 go_wp2_with fail
 refine (CK.out _ HB2.out).mono ?_
 rintro e w3 ⟨rfl, hb3⟩
 have HB3 := hid (bb HB2.out hb3)
 have M3 := hid (blk_below M2.out hb3)
 clear hb3
 go_wp2_with fail
 refine (CD.out _ HB3.out).mono ?_
 rintro e w4 ⟨rfl, hb4⟩
 have HB4 := hid (bb HB3.out hb4)
 have M44 := hid (blk_below M3.out hb4)
 clear hb4 M3 M2 M1 M4 HB0 HB1 HB2 HB3 CN CI CK CD
 have HBa := hid ((Below.refl w4.heap.size w4).alloc (Nat.le_refl _) (.cells #[.string idv, .string ⟨#[]⟩, .string ⟨#[]⟩, .int .i64 0, .int .i64 0, .string ⟨#[]⟩, .string ⟨#[]⟩, .slice none 0 0] 26))
 have MC := hid (heap_alloc_new w4 (.cells #[.string idv, .string ⟨#[]⟩, .string ⟨#[]⟩, .int .i64 0, .int .i64 0, .string ⟨#[]⟩, .string ⟨#[]⟩, .slice none 0 0] 26))
 obtain ⟨wa, hwa⟩ : ∃ wa, w4.alloc (.cells #[.string idv, .string ⟨#[]⟩, .string ⟨#[]⟩, .int .i64 0, .int .i64 0, .string ⟨#[]⟩, .string ⟨#[]⟩, .slice none 0 0] 26) = wa := ⟨_, rfl⟩
 rw [hwa] at HBa MC
 have HWA := hid hwa
 clear hwa
 have HBW := hid (bb HB4.out HBa.out)
 have MB4 := hid (blk_below M44.out HBa.out)
 have HBC := hid (show w.heap.size <= w4.heap.size from HB4.out.size)
 have HN4 := hid (show ¬ w.heap.size = w4.heap.size from fun e => by have := lt_of_heap M44.out; omega)
 have HBCL := hid (show w4.heap.size < wa.heap.size from lt_of_heap MC.out)
 go_wp2_with fail
 simp only [HWA.out]
 refine (CKK.out _).mono ?_
 rintro e w5 ⟨g, b0, b1, b3, b4, rfl, hks, hb5⟩
 have HKD := hid hks
 have HBK := hid (bb HBW.out hb5)
 have MK := hid (blk_below MB4.out hb5)
 have MC5 := hid (blk_below MC.out hb5)
 have HL5 := hid (Nat.lt_of_lt_of_le HBCL.out hb5.size)
 have HF0 := hid (show FH w5.heap.size w5 w4.heap.size (DC 0) (.slice none 0 0) (DC 0).facts from by
  rw [HFA.out 0 (by omega)]
  refine ⟨?_, World.ownsRow_nil _ _ _ _, fun e => by cases e⟩
  rw [HC0.out]
  exact MC5.out)
 clear hks hb5 CKK MC5 HWA HBa MC HBW MB4 M44 HB4
 go_wp2_with fail
 go_loopw [30] (fun y wr => ∃ (q : Nat) (v : Value), y = .int .i64 (q : Int) /\ q <= 6 /\ Hid (FH w5.heap.size wr w4.heap.size (DC q) v (DC q).facts) /\ Hid (KeepB (fun j => j = w4.heap.size) w5 wr) /\ Hid (∀ i, i < q -> DX i = true)) (fun y _ => 6 - (intOf y).toNat)
 case atStart => exact ⟨0, _, rfl, Nat.zero_le _, HF0.out, KeepB.refl _ _, fun i hi => absurd hi (Nat.not_lt_zero _)⟩
 case round =>
  clear HF0
  obtain ⟨q, v, rfl, hq6, HF, HK, HX⟩ := hrel
  by_cases hlt : q < 6
  ·have hqi : (q : Int) < 6 := by omega
   have HKr := hid (HKD.out.keep HBCL.out HK.out)
   obtain ⟨F, C, F2, C2, ⟨k0, k1, k2, k3, k4⟩, hHd⟩ := heard_at HKD.out HKr.out HBCL.out HLD.out q hlt
   have HHD := hid hHd
   have HBa := hid ((Below.refl wr.heap.size wr).alloc (Nat.le_refl _) (.cells #[.string (localN q), .int .i64 (leN q), .int .i64 (moN q), .func (.func F) #[] C, .func (.func F2) #[] C2] 51))
   have Ha1 := hid (heap_alloc_new wr (.cells #[.string (localN q), .int .i64 (leN q), .int .i64 (moN q), .func (.func F) #[] C, .func (.func F2) #[] C2] 51))
   obtain ⟨wb, hwb⟩ : ∃ wb, wr.alloc (.cells #[.string (localN q), .int .i64 (leN q), .int .i64 (moN q), .func (.func F) #[] C, .func (.func F2) #[] C2] 51) = wb := ⟨_, rfl⟩
   rw [hwb] at HBa Ha1
   obtain ⟨⟨q0, q1, q2, q3, q4⟩, _⟩ := box5 Ha1.out
   have HBr := hid (show Below w.heap.size w wr from HBK.out.trans (HK.out.below HBK.out.size (fun j e => by have := HBC.out; omega)))
   have HBb := hid (bb HBr.out HBa.out)
   have HKb := hid (HK.out.trans (KeepB.of_below _ HBa.out))
   have HFb := hid (HF.out.below HBa.out)
   have HVL := hid (show ∀ j, v.ownBlock = some j -> j < wb.heap.size from fun j e => (HFb.out.own.lt j e).2)
   have HL6 := hid (show w4.heap.size < wb.heap.size from lt_of_heap HFb.out.hc)
   have CS1 := hid (fun (wx : World) (h : Below wb.heap.size wb wx) => (show Calls Tryz.prog 39 #[.slice a n cap, .int .i64 (k : Int), .string (localN q)] wx fun r w' => ∃ a2 c2, r = .returned (.slice a2 (SL q).length c2) /\ SayQ w' w.heap.size w4.heap.size v a2 (SL q) /\ Below wb.heap.size wb w' /\ w'.cell? ⟨wr.heap.size, 0, none⟩ = some (.string (localN q)) /\ w'.cell? ⟨wr.heap.size, 1, none⟩ = some (.int .i64 (leN q)) /\ w'.cell? ⟨wr.heap.size, 2, none⟩ = some (.int .i64 (moN q)) /\ w'.cell? ⟨wr.heap.size, 3, none⟩ = some (.func (.func F) #[] C) /\ w'.cell? ⟨wr.heap.size, 4, none⟩ = some (.func (.func F2) #[] C2) by
    refine (CS.out q wx (bb HBb.out h)).mono ?_
    rintro r w7 ⟨a2, c2, rfl, hs, hb7⟩
    have h7 := h.trans (hb7.mono h.size)
    obtain ⟨⟨t0, t1, t2, t3, t4⟩, _⟩ := box5 (blk_below Ha1.out h7)
    exact ⟨a2, c2, rfl, hs.q (Nat.lt_of_lt_of_le HL6.out h.size) (fun j e => Nat.lt_of_lt_of_le (HVL.out j e) h.size), h7, t0, t1, t2, t3, t4⟩))
   have CA := hid (fun (wx : World) (a2 : Option Addr) (c2 : Nat) (h : Below wb.heap.size wb wx) (hs : SayQ wx w.heap.size w4.heap.size v a2 (SL q)) => (show Calls Tryz.prog 38 #[.agg #[.string (localN q), .int .i64 (leN q), .int .i64 (moN q), .func (.func F) #[] C, .func (.func F2) #[] C2], .pointer (some ⟨w4.heap.size, 0, none⟩), .slice a2 (SL q).length c2] wx (AllPost q w4.heap.size w5 (DC q) (SL q) (DX q)) by
    rw [HDX.out q]
    exact cAllHeard q w4.heap.size F2 C2 w w5 HHD.out (localN q) (leN q) (moN q) F C (DC q) v a2 c2 (SL q) wx (HKb.out.trans (KeepB.of_below _ h)) HBK.out HBC.out (HFb.out.below h) hs (HSL.out q) (by rw [HFA.out q (by omega)]; exact Nat.zero_le _) (HSS.out q)))
   clear CS HBa Ha1 HBr HBb HKb HFb HVL HL6 hHd HHD HKr HF
   go_wp2_with fail
   have HSx := hid ((Below.refl wb.heap.size wb).drew)
   go_region_law (first
    | (go_simp; go_at_call 39; refine (CS1.out _ HSx.out).mono ?_; rintro r W2 ⟨a2, c2, rfl, hs2, hb2, z0, z1, z2, z3, z4⟩; have HS2 := hid hs2; replace HSx := hid hb2; clear hs2 hb2)
    | (go_simp; go_at_call 38; refine (CA.out _ a2 c2 HSx.out HS2.out).mono ?_; rintro r W3 ⟨rfl, hk3, hf3⟩; have HK3 := hid hk3; have HF3 := hid hf3; clear hk3 hf3))
   all_goals
    clear CS1 CA HSx HS2 z0 z1 z2 z3 z4 q0 q1 q2 q3 q4 hwb k0 k1 k2 k3 k4
    cases hX : DX q with
    | false =>
     obtain ⟨rfl, rfl⟩ := HNOT.out (fun h => by have h1 := h.1 q hlt; rw [hX] at h1; cases h1)
     have MM := hid (keep_blk HK3.out MK.out HN4.out)
     have BB := hid (show Below w.heap.size w W3 from HBK.out.trans (HK3.out.below HBK.out.size (fun j e => by have := HBC.out; omega)))
     rw [hX] at HF3
     clear HF3 HK3
     obtain ⟨⟨y0, y1, y2, y3, y4, y5, y6, y7⟩, yf0, yf1, yf2, yf3, yf4, yf5, yf6, yf7⟩ := box8 MM.out
     go_wp2_with fail
     refine bodyPost_ret (v := .tuple #[.agg #[.string ⟨#[]⟩, .string ⟨#[]⟩, .string ⟨#[]⟩, .int .i64 0, .int .i64 0, .string ⟨#[]⟩, .string ⟨#[]⟩, .slice none 0 0], .bool false]) (by simp [results, Tryz.results8, go_sem, y0, y1, y2, y3, y4, y5, y6, y7]) rfl ⟨none, 0, rfl, fun hl => absurd hl (Nat.lt_irrefl 0), ?_⟩
     iterate 8 refine Below.setCell ?_ (show w.heap.size <= w.heap.size from Nat.le_refl _) _
     exact BB.out
    | true =>
     obtain ⟨v3, hf3⟩ := HF3.out hX
     have HF4 := hid (show FH w5.heap.size W3 w4.heap.size (DC (q + 1)) v3 (DC (q + 1)).facts from by rw [HSU.out q]; exact hf3)
     have HX4 := hid (show ∀ i, i < q + 1 -> DX i = true from fun i hi => by
      rcases Nat.lt_or_eq_of_le (Nat.le_of_lt_succ hi) with h | h
      ·exact HX.out i h
      ·rw [h]; exact hX)
     clear hf3 HF3
     go_wp2_with fail
     go_roundw
     case rel => exact ⟨q + 1, v3, by go_num, by omega, HF4.out, HK3.out, HX4.out⟩
     case measure => (simp [intOf]; try omega)
  ·have hqe : q = 6 := by omega
   subst hqe
   obtain ⟨av, cv, hv, hoa⟩ := qa_own HF.out.own
   have HOA := hid hoa
   have CO := hid (cClaimOkI (DC 6) av cv wr hoa.rd (HSZ.out HX.out))
   have MF := hid HF.out.hc
   have HNV := hid HF.out.nc
   have HBL := hid (HF.out.own.lt)
   have HBr := hid (show Below w.heap.size w wr from HBK.out.trans (HK.out.below HBK.out.size (fun j e => by have := HBC.out; omega)))
   have MR := hid (keep_blk HK.out MK.out HN4.out)
   subst hv
   obtain ⟨⟨p0, p1, p2, p3, p4, p5, p6, p7⟩, _⟩ := box8 MF.out
   clear hoa HF
   unfold cmV at CO
   generalize hCB : claimB (DC 6) = CB at *
   generalize DC 6 = D at *
   go_wp2_with fail
   refine CO.out.mono ?_
   rintro e w7 ⟨rfl, hb7⟩
   have BB := hid (bb HBr.out hb7)
   have MM := hid (blk_below MR.out hb7)
   have MD := hid (blk_below MF.out hb7)
   have HO7 := hid (HOA.out.below hb7)
   clear hb7 CO p0 p1 p2 p3 p4 p5 p6 p7 HOA MF MR HBr
   cases CB with
   | false =>
    obtain ⟨rfl, rfl⟩ := HNOT.out (fun h => by cases h.2)
    obtain ⟨⟨y0, y1, y2, y3, y4, y5, y6, y7⟩, yf0, yf1, yf2, yf3, yf4, yf5, yf6, yf7⟩ := box8 MM.out
    go_wp2_with fail
    refine bodyPost_ret (v := .tuple #[.agg #[.string ⟨#[]⟩, .string ⟨#[]⟩, .string ⟨#[]⟩, .int .i64 0, .int .i64 0, .string ⟨#[]⟩, .string ⟨#[]⟩, .slice none 0 0], .bool false]) (by simp [results, Tryz.results8, go_sem, y0, y1, y2, y3, y4, y5, y6, y7]) rfl ⟨none, 0, rfl, fun hl => absurd hl (Nat.lt_irrefl 0), ?_⟩
    iterate 8 refine Below.setCell ?_ (show w.heap.size <= w.heap.size from Nat.le_refl _) _
    exact BB.out
   | true =>
    obtain ⟨rfl, rfl⟩ := HIS.out HX.out rfl
    obtain ⟨⟨y0, y1, y2, y3, y4, y5, y6, y7⟩, yf0, yf1, yf2, yf3, yf4, yf5, yf6, yf7⟩ := box8 MM.out
    obtain ⟨⟨x0, x1, x2, x3, x4, x5, x6, x7⟩, _⟩ := box8 MD.out
    go_wp2_with fail
    refine bodyPost_ret (v := .tuple #[cmV QA av cv, .bool true]) (by simp [results, Tryz.results8, go_sem, cmV, y0, y1, y2, y3, y4, y5, y6, y7]) rfl ⟨av, cv, rfl, ?_, ?_⟩
    ·have hset : ∀ (W : World) (i : Nat) (u : Value), OwnAts W w5.heap.size av QA.facts -> OwnAts (W.setCell ⟨w.heap.size, i, none⟩ u) w5.heap.size av QA.facts := fun W i u h => OwnAts.set4 h (fun g o e hl eg => by
      obtain ⟨g', o', cu', k1, k2, _⟩ := h hl
      rw [e] at k1
      cases k1
      have := HL5.out
      have := HBC.out
      omega)
     refine own_lift (B' := w5.heap.size) ?_ HBK.out.size
     iterate 8 refine hset _ _ _ ?_
     exact HO7.out
    ·iterate 8 refine Below.setCell ?_ (show w.heap.size <= w.heap.size from Nat.le_refl _) _
     exact BB.out

end Go.Proofs.YtlpbbkaelbafdaaGreatDoor
