/-  -/
import Derived.Test.YtlpbbkaelbafdaaGreatDoorM13
import Derived.Test.YtlpbbkaelbafdaaGreatDoorM14
import Derived.Test.YtlpbbkaelbafdaaGreatDoorM9
import Derived.Test.YtlpbbkaelbafdaaGreatDoorM10
import Derived.Test.YtlpbbkaelbafdaaGreatDoorM5
set_option linter.unusedVariables false
set_option linter.unusedSimpArgs false
namespace Go.Proofs.YtlpbbkaelbafdaaGreatDoor
open Go.RowKit

theorem date_ex : ∀ d, d < 36525 -> ∃ k m dd, IsDate d k m dd
 | 0, _ => ⟨0, 1, 1, by decide, by decide, by decide, by decide, by decide, rfl⟩
 | d + 1, h => by
  obtain ⟨k, m, dd, a⟩ := date_ex d (by omega)
  have he := a.eq; have h1 := a.d1; have hm0 := a.m0; have hm1 := a.m1; have hk := a.k1; have h0 := a.d0
  by_cases c1 : dd < dm (lp k) m
  ·exact ⟨k, m, dd + 1, hk, hm0, hm1, by omega, by omega, by omega⟩
  ·have e := mb_succ (lp k) m hm0 hm1
   by_cases c2 : m < 12
   ·exact ⟨k, m + 1, 1, hk, by omega, by omega, by omega, by have := (dm_pos (lp k) (m + 1) (by omega) (by omega)).1; omega, by omega⟩
   ·have : m = 12 := by omega
    subst this
    have e2 : mb (lp k) (12 + 1) = 365 + lp k := mb_13 _
    have e3 := yb_succ k
    have hk1 : k + 1 < 100 := yb_lt_inv (by omega)
    refine ⟨k + 1, 1, 1, hk1, by omega, by omega, by omega, by simp [dm], ?_⟩
    show d + 1 + 1 = yb (k + 1) + 0 + 1
    omega

open Classical in
noncomputable def pickText (t : Nat) : List UInt8 := if h : ∃ l, IsText t l then h.choose else []

noncomputable def textOf (t : Int) : List UInt8 := if 0 <= t /\ t <= 3155759999 then pickText t.toNat else []

theorem isText_ex {t : Nat} (h : t <= 3155759999) : ∃ l, IsText t l := by
 obtain ⟨k, m, dd, a⟩ := date_ex (t / 86400) (by omega)
 exact ⟨_, k, m, dd, a, rfl⟩

theorem textOf_is {t : Nat} (h : t <= 3155759999) : IsText t (textOf t) := by
 have hx := isText_ex h
 unfold textOf
 rw [if_pos (by omega), Int.toNat_natCast]
 unfold pickText
 rw [dif_pos hx]
 exact hx.choose_spec

theorem textOf_eq {t k m dd : Nat} (h : t <= 3155759999) (a : IsDate (t / 86400) k m dd) : textOf t = txt k m dd (t % 86400 / 3600) (t % 3600 / 60) (t % 60) :=
 isText_unique (textOf_is h) ⟨k, m, dd, a, rfl⟩

theorem textOf_out {t : Int} (h : ¬ (0 <= t /\ t <= 3155759999)) : textOf t = [] := by
 unfold textOf
 rw [if_neg h]

theorem two_len (n : Nat) : (two n).length = 2 := rfl

theorem cTwo (n : Nat) (w : World) (hn : n < 100) (hL : Laid w) :
  Calls Tryz.prog 143 #[.int .i64 n] w fun e w' => e = .returned (.string ⟨(two n).toArray⟩) /\ Below w.heap.size w w' := by
 have C := cPadI n 2 w (by omega) (by omega) hL
 rw [padL_two hn] at C
 obtain ⟨b, hb⟩ : ∃ b : ByteArray, (⟨(two n).toArray⟩ : ByteArray) = b := ⟨_, rfl⟩
 rw [hb] at C ⊢
 clear hb
 go_enter Tryz.func143, Tryz.ntmps143
 go_wp2_with fail
 refine C.mono ?_
 rintro e w1 ⟨rfl, hb1⟩
 go_wp2_with fail
 go_ret
 exact ⟨rfl, hb1⟩

theorem cat_txt (k m dd h mi s : Nat) : ((((((((((((⟨([50, 48] ++ two k).toArray⟩ : ByteArray) ++ ⟨#[45]⟩) ++ ⟨(two m).toArray⟩) ++ ⟨#[45]⟩) ++ ⟨(two dd).toArray⟩) ++ ⟨#[84]⟩) ++ ⟨(two h).toArray⟩) ++ ⟨#[58]⟩) ++ ⟨(two mi).toArray⟩) ++ ⟨#[58]⟩) ++ ⟨(two s).toArray⟩) ++ ⟨#[90]⟩ : ByteArray) = ⟨(txt k m dd h mi s).toArray⟩ := by
 apply ByteArray.ext
 apply Array.toList_inj.1
 simp [ByteArray.data_append, txt]

set_option maxHeartbeats 4000000 in
theorem cTextI_in (t : Nat) (w : World) (ht : t <= 3155759999) (hL : Laid w) :
  Calls Tryz.prog 113 #[.int .i64 t] w fun e w' => e = .returned (.string ⟨(textOf t).toArray⟩) /\ Below w.heap.size w w' := by
 have HL : Hid (Laid w) := hL
 clear hL
 have C0 := fun w => cTimeI t w
 rw [decide_eq_true (show (0 : Int) <= t /\ (t : Int) <= 3155759999 by omega)] at C0
 have C1 := fun w hM => cDateOf (t / 86400) w (by omega) hM
 rw [show ((t / 86400 : Nat) : Int) = (t : Int) / 86400 by omega] at C1
 have HT : Hid (t <= 3155759999) := ht
 obtain ⟨O, hO⟩ : ∃ O : ByteArray, (⟨(textOf t).toArray⟩ : ByteArray) = O := ⟨_, rfl⟩
 have HO : Hid ((⟨(textOf t).toArray⟩ : ByteArray) = O) := hO
 rw [hO]
 clear hO
 go_enter Tryz.func113, Tryz.ntmps113
 go_wp2_with fail
 refine (C0 _).mono ?_
 rintro e w' ⟨rfl, rfl⟩
 go_wp2_with fail
 refine (C1 _ HL.out.1).mono ?_
 rintro e w1 ⟨k, m, dd, rfl, hD, hb1⟩
 obtain ⟨q1, q2, q3⟩ := date_bounds hD
 have E := HO.out
 rw [textOf_eq HT.out hD, <- cat_txt] at E
 have HE : Hid (_ = O) := E
 clear E hD C0 C1 HO
 have CY := fun w hL => cPadI (2000 + k) 4 w (by omega) (by omega) hL
 rw [padL_four q1] at CY
 have CM := fun w hL => cTwo m w q2 hL
 have CD := fun w hL => cTwo dd w q3 hL
 have CH := fun w hL => cTwo (t % 86400 / 3600) w (by omega) hL
 have CI := fun w hL => cTwo (t % 3600 / 60) w (by omega) hL
 have CS := fun w hL => cTwo (t % 60) w (by omega) hL
 have zY : (⟨([50, 48] ++ two k).toArray⟩ : ByteArray).size = 4 := rfl
 have zM : (⟨(two m).toArray⟩ : ByteArray).size = 2 := rfl
 have zD : (⟨(two dd).toArray⟩ : ByteArray).size = 2 := rfl
 have zH : (⟨(two (t % 86400 / 3600)).toArray⟩ : ByteArray).size = 2 := rfl
 have zI : (⟨(two (t % 3600 / 60)).toArray⟩ : ByteArray).size = 2 := rfl
 have zS : (⟨(two (t % 60)).toArray⟩ : ByteArray).size = 2 := rfl
 generalize (⟨([50, 48] ++ two k).toArray⟩ : ByteArray) = bY at *
 generalize (⟨(two m).toArray⟩ : ByteArray) = bM at *
 generalize (⟨(two dd).toArray⟩ : ByteArray) = bD at *
 generalize (⟨(two (t % 86400 / 3600)).toArray⟩ : ByteArray) = bH at *
 generalize (⟨(two (t % 3600 / 60)).toArray⟩ : ByteArray) = bI at *
 generalize (⟨(two (t % 60)).toArray⟩ : ByteArray) = bS at *
 rw [show ((t % 86400 / 3600 : Nat) : Int) = (t : Int) % 86400 / 3600 by omega] at CH
 rw [show ((t % 3600 / 60 : Nat) : Int) = (t : Int) % 3600 / 60 by omega] at CI
 rw [show ((t % 60 : Nat) : Int) = (t : Int) % 60 by omega] at CS
 generalize ((2000 + k : Nat) : Int) = y at *
 clear q1 q2 q3 ht
 have HB : Hid (Below w'.heap.size w' w1) := hb1
 clear hb1
 go_wp2_with fail
 refine (CY _ (HL.out.below HB.out)).mono ?_
 rintro e w2 ⟨rfl, hb⟩
 replace HB : Hid (Below w'.heap.size w' w2) := HB.out.trans (hb.mono HB.out.size)
 clear hb CY
 go_wp2_with fail
 refine (CM _ (HL.out.below HB.out)).mono ?_
 rintro e w3 ⟨rfl, hb⟩
 replace HB : Hid (Below w'.heap.size w' w3) := HB.out.trans (hb.mono HB.out.size)
 clear hb CM
 go_wp2_with fail
 refine (CD _ (HL.out.below HB.out)).mono ?_
 rintro e w4 ⟨rfl, hb⟩
 replace HB : Hid (Below w'.heap.size w' w4) := HB.out.trans (hb.mono HB.out.size)
 clear hb CD
 go_wp2_with fail
 refine (CH _ (HL.out.below HB.out)).mono ?_
 rintro e w5 ⟨rfl, hb⟩
 replace HB : Hid (Below w'.heap.size w' w5) := HB.out.trans (hb.mono HB.out.size)
 clear hb CH
 go_wp2_with fail
 refine (CI _ (HL.out.below HB.out)).mono ?_
 rintro e w6 ⟨rfl, hb⟩
 replace HB : Hid (Below w'.heap.size w' w6) := HB.out.trans (hb.mono HB.out.size)
 clear hb CI
 go_wp2_with fail
 refine (CS _ (HL.out.below HB.out)).mono ?_
 rintro e w7 ⟨rfl, hb⟩
 replace HB : Hid (Below w'.heap.size w' w7) := HB.out.trans (hb.mono HB.out.size)
 clear hb CS
 go_wp2_with fail
 go_ret
 exact ⟨congrArg (fun x => Ending.returned (Value.string x)) HE.out, HB.out⟩

end Go.Proofs.YtlpbbkaelbafdaaGreatDoor

namespace Go.Proofs.YtlpbbkaelbafdaaGreatDoor
open Go.RowKit

set_option maxHeartbeats 8000000 in
set_option maxRecDepth 4000 in
theorem cTextS_in (t : Nat) (w : World) (ht : t <= 3155759999) :
  Calls Tryz.prog 74 #[.int .i64 t] w fun e w' => e = .returned (.string ⟨(textOf t).toArray⟩) /\ Below w.heap.size w w' := by
 have C0 := fun w => cTimeS t w
 rw [decide_eq_true (show (0 : Int) <= t /\ (t : Int) <= 3155759999 by omega)] at C0
 have HT : Hid (t <= 3155759999) := ht
 obtain ⟨O, hO⟩ : ∃ O : ByteArray, (⟨(textOf t).toArray⟩ : ByteArray) = O := ⟨_, rfl⟩
 have HO : Hid ((⟨(textOf t).toArray⟩ : ByteArray) = O) := hO
 rw [hO]
 obtain ⟨d, hd⟩ : ∃ d : Nat, t / 86400 = d := ⟨_, rfl⟩
 have HDd : Hid (t / 86400 = d) := hd
 have hdi : (t : Int) / 86400 = (d : Int) := by omega
 have hd2 : d < 36525 := by omega
 obtain ⟨lf, hlf⟩ : ∃ lf : Nat, t % 86400 = lf := ⟨_, rfl⟩
 have HLf : Hid (t % 86400 = lf) := hlf
 have hlfi : (t : Int) % 86400 = (lf : Int) := by omega
 have hlf2 : lf < 86400 := by omega
 clear hO ht hd hlf
 go_enter Tryz.func74, Tryz.ntmps74
 go_wp2_with fail
 refine (C0 _).mono ?_
 rintro e w' ⟨rfl, rfl⟩
 clear C0
 go_wp2_with fail
 clear hdi hlfi
 go_loop [3, 5] (fun day year => ∃ r k : Nat, day = .int .i64 (r : Int) /\ year = .int .i64 ((2000 + k : Nat) : Int) /\ r + yb k = d) (fun day _ => (intOf day).toNat)
 case atStart => exact ⟨d, 0, rfl, rfl, by simp [yb]⟩
 case round =>
  obtain ⟨r, k, rfl, rfl, hr⟩ := hrel
  have hk : k < 100 := yb_lt_inv (by omega)
  have hr2 : r <= 36525 := by omega
  have HR : Hid (r + yb k = d) := hr
  have e4 : ((((2000 + k : Nat) : Int) % 4) == 0) = (lp k == 1) := by
   unfold lp
   split
   ·simp; omega
   ·simp; omega
  have e5 : ((((2000 + k : Nat) : Int).tmod 4) == 0) = (lp k == 1) := by
   rw [Int.tmod_eq_emod_of_nonneg (by omega)]
   exact e4
  have hys := yb_succ k
  obtain ⟨l, hl⟩ : ∃ l : Nat, lp k = l := ⟨_, rfl⟩
  have hl01 : l = 0 \/ l = 1 := by rw [<- hl]; unfold lp; split <;> simp
  have HL : Hid (lp k = l) := hl
  rw [hl] at e4 e5 hys
  have HYs : Hid (yb (k + 1) = yb k + (365 + l)) := hys
  obtain ⟨y, hy⟩ : ∃ y : Int, ((2000 + k : Nat) : Int) = y := ⟨_, rfl⟩
  have HY : Hid (((2000 + k : Nat) : Int) = y) := hy
  have hy1 : 2000 <= y := by omega
  have hy2 : y <= 2099 := by omega
  rw [hy] at e4 e5 ⊢
  clear hy hr hl hys
  rcases hl01 with rfl | rfl
  ·have e6 : (y % 4 == 0) = false := e4
   have e7 : (y.tmod 4 == 0) = false := e5
   clear e4 e5
   by_cases hlt : r < 365
   ·go_wp2_with fail
    go_loopw [3, 7] (fun day month wx => ∃ s m : Nat, day = .int .i64 (s : Int) /\ month = .int .i64 (m : Int) /\ 1 <= m /\ m <= 12 /\ s + mb (lp k) m = r /\ Below w'.heap.size w' wx) (fun day _ _ => (intOf day).toNat)
    case atStart => exact ⟨r, 1, rfl, rfl, by omega, by omega, rfl, Below.refl _ _⟩
    case round =>
     clear e6 e7
     obtain ⟨s, m, rfl, rfl, hm1, hm2, hs, hB⟩ := hrel
     have A := fun wx => cDaysS_in k m wx hk hm1 hm2
     obtain ⟨D, hD⟩ : ∃ D : Nat, dm (lp k) m = D := ⟨_, rfl⟩
     have hD1 : 28 <= D := by rw [<- hD]; exact (dm_pos _ _ hm1 hm2).1
     have hD2 : D <= 32 := by
      have := (dm_pos (lp k) m hm1 hm2).2
      have : lp k <= 1 := by unfold lp; split <;> omega
      omega
     have HD : Hid (dm (lp k) m = D) := hD
     have HS : Hid (s + mb (lp k) m = r) := hs
     have hs2 : s <= 366 := by omega
     have HBx : Hid (Below w'.heap.size w' wr) := hB
     rw [hD, HY.out] at A
     clear hD hs hB
     by_cases hlt2 : D <= s
     ·go_wp2_with fail
      refine (A _).mono ?_
      rintro e w3 ⟨rfl, hb3⟩
      have hB3 : Below w'.heap.size w' w3 := HBx.out.trans (hb3.mono HBx.out.size)
      have HB3 : Hid (Below w'.heap.size w' w3) := hB3
      clear hb3 hB3
      go_wp2_with fail
      refine (A _).mono ?_
      rintro e w4 ⟨rfl, hb4⟩
      have hB4 : Below w'.heap.size w' w4 := HB3.out.trans (hb4.mono HB3.out.size)
      clear hb4 A
      go_wp2_with fail
      go_roundw
      case rel =>
       have h1 := HD.out; have h2 := HS.out; have h3 := HL.out
       have h4 := month_lt hm1 hm2 h2 (by omega) (by omega)
       refine ⟨s - D, m + 1, ?_, ?_, by omega, by omega, ?_, hB4⟩
       ·go_num
       ·go_num
       ·rw [mb_succ _ _ hm1 hm2, h1]; omega
      case measure => simp [intOf]; omega
     ·have hdt : IsDate (t / 86400) k m (s + 1) := by
       have h1 := HD.out; have h2 := HS.out; have h3 := HL.out; have h5 := HR.out; have h6 := HDd.out
       exact ⟨hk, hm1, hm2, by omega, by omega, by omega⟩
      obtain ⟨q1, q2, q3⟩ := date_bounds hdt
      have E := HO.out
      rw [textOf_eq HT.out hdt, <- cat_txt] at E
      have HE : Hid (_ = O) := E
      clear E hdt HO
      have CY := fun w => cPadS (2000 + k) 4 w (by omega) (by omega)
      rw [padL_four q1] at CY
      have CM := fun w => cPadS m 2 w (by omega) (by omega)
      rw [padL_two q2] at CM
      have CD := fun w => cPadS (s + 1) 2 w (by omega) (by omega)
      rw [padL_two q3] at CD
      have CH := fun w => cPadS (t % 86400 / 3600) 2 w (by omega) (by omega)
      rw [padL_two (by omega)] at CH
      have CI := fun w => cPadS (t % 3600 / 60) 2 w (by omega) (by omega)
      rw [padL_two (by omega)] at CI
      have CS := fun w => cPadS (t % 60) 2 w (by omega) (by omega)
      rw [padL_two (by omega)] at CS
      have zY : (⟨([50, 48] ++ two k).toArray⟩ : ByteArray).size = 4 := rfl
      have zM : (⟨(two m).toArray⟩ : ByteArray).size = 2 := rfl
      have zD : (⟨(two (s + 1)).toArray⟩ : ByteArray).size = 2 := rfl
      have zH : (⟨(two (t % 86400 / 3600)).toArray⟩ : ByteArray).size = 2 := rfl
      have zI : (⟨(two (t % 3600 / 60)).toArray⟩ : ByteArray).size = 2 := rfl
      have zS : (⟨(two (t % 60)).toArray⟩ : ByteArray).size = 2 := rfl
      generalize (⟨([50, 48] ++ two k).toArray⟩ : ByteArray) = bY at *
      generalize (⟨(two m).toArray⟩ : ByteArray) = bM at *
      generalize (⟨(two (s + 1)).toArray⟩ : ByteArray) = bD at *
      generalize (⟨(two (t % 86400 / 3600)).toArray⟩ : ByteArray) = bH at *
      generalize (⟨(two (t % 3600 / 60)).toArray⟩ : ByteArray) = bI at *
      generalize (⟨(two (t % 60)).toArray⟩ : ByteArray) = bS at *
      rw [show ((t % 86400 / 3600 : Nat) : Int) = (t : Int) % 86400 / 3600 by omega] at CH
      rw [show ((t % 3600 / 60 : Nat) : Int) = (t : Int) % 86400 / 60 % 60 by omega] at CI
      rw [show ((t % 60 : Nat) : Int) = (t : Int) % 60 by omega] at CS
      rw [show ((s + 1 : Nat) : Int) = (s : Int) + 1 by omega] at CD
      rw [HY.out] at CY
      clear q1 q2 q3
      go_wp2_with fail
      refine (A _).mono ?_
      rintro e w3 ⟨rfl, hb⟩
      have HB : Hid (Below w'.heap.size w' w3) := HBx.out.trans (hb.mono HBx.out.size)
      clear hb A
      go_wp2_with fail
      refine (CY _).mono ?_
      rintro e w4 ⟨rfl, hb⟩
      replace HB : Hid (Below w'.heap.size w' w4) := HB.out.trans (hb.mono HB.out.size)
      clear hb CY
      go_wp2_with fail
      refine (CM _).mono ?_
      rintro e w5 ⟨rfl, hb⟩
      replace HB : Hid (Below w'.heap.size w' w5) := HB.out.trans (hb.mono HB.out.size)
      clear hb CM
      go_wp2_with fail
      refine (CD _).mono ?_
      rintro e w6 ⟨rfl, hb⟩
      replace HB : Hid (Below w'.heap.size w' w6) := HB.out.trans (hb.mono HB.out.size)
      clear hb CD
      go_wp2_with fail
      refine (CH _).mono ?_
      rintro e w7 ⟨rfl, hb⟩
      replace HB : Hid (Below w'.heap.size w' w7) := HB.out.trans (hb.mono HB.out.size)
      clear hb CH
      go_wp2_with fail
      refine (CI _).mono ?_
      rintro e w8 ⟨rfl, hb⟩
      replace HB : Hid (Below w'.heap.size w' w8) := HB.out.trans (hb.mono HB.out.size)
      clear hb CI
      go_wp2_with fail
      refine (CS _).mono ?_
      rintro e w9 ⟨rfl, hb⟩
      replace HB : Hid (Below w'.heap.size w' w9) := HB.out.trans (hb.mono HB.out.size)
      clear hb CS
      go_wp2_with fail
      go_ret
      exact ⟨congrArg (fun x => Ending.returned (Value.string x)) HE.out, HB.out⟩
   ·go_wp2_with fail
    go_round
    case rel =>
     have h1 := HY.out; have h2 := HR.out; have h3 := HYs.out
     refine ⟨r - 365, k + 1, ?_, ?_, by omega⟩
     ·go_num
     ·rw [<- h1]; go_num
    case measure => simp [intOf]; omega
  ·have e6 : (y % 4 == 0) = true := e4
   have e7 : (y.tmod 4 == 0) = true := e5
   clear e4 e5
   by_cases hlt : r < 366
   ·go_wp2_with fail
    go_loopw [3, 7] (fun day month wx => ∃ s m : Nat, day = .int .i64 (s : Int) /\ month = .int .i64 (m : Int) /\ 1 <= m /\ m <= 12 /\ s + mb (lp k) m = r /\ Below w'.heap.size w' wx) (fun day _ _ => (intOf day).toNat)
    case atStart => exact ⟨r, 1, rfl, rfl, by omega, by omega, rfl, Below.refl _ _⟩
    case round =>
     clear e6 e7
     obtain ⟨s, m, rfl, rfl, hm1, hm2, hs, hB⟩ := hrel
     have A := fun wx => cDaysS_in k m wx hk hm1 hm2
     obtain ⟨D, hD⟩ : ∃ D : Nat, dm (lp k) m = D := ⟨_, rfl⟩
     have hD1 : 28 <= D := by rw [<- hD]; exact (dm_pos _ _ hm1 hm2).1
     have hD2 : D <= 32 := by
      have := (dm_pos (lp k) m hm1 hm2).2
      have : lp k <= 1 := by unfold lp; split <;> omega
      omega
     have HD : Hid (dm (lp k) m = D) := hD
     have HS : Hid (s + mb (lp k) m = r) := hs
     have hs2 : s <= 366 := by omega
     have HBx : Hid (Below w'.heap.size w' wr) := hB
     rw [hD, HY.out] at A
     clear hD hs hB
     by_cases hlt2 : D <= s
     ·go_wp2_with fail
      refine (A _).mono ?_
      rintro e w3 ⟨rfl, hb3⟩
      have hB3 : Below w'.heap.size w' w3 := HBx.out.trans (hb3.mono HBx.out.size)
      have HB3 : Hid (Below w'.heap.size w' w3) := hB3
      clear hb3 hB3
      go_wp2_with fail
      refine (A _).mono ?_
      rintro e w4 ⟨rfl, hb4⟩
      have hB4 : Below w'.heap.size w' w4 := HB3.out.trans (hb4.mono HB3.out.size)
      clear hb4 A
      go_wp2_with fail
      go_roundw
      case rel =>
       have h1 := HD.out; have h2 := HS.out; have h3 := HL.out
       have h4 := month_lt hm1 hm2 h2 (by omega) (by omega)
       refine ⟨s - D, m + 1, ?_, ?_, by omega, by omega, ?_, hB4⟩
       ·go_num
       ·go_num
       ·rw [mb_succ _ _ hm1 hm2, h1]; omega
      case measure => simp [intOf]; omega
     ·have hdt : IsDate (t / 86400) k m (s + 1) := by
       have h1 := HD.out; have h2 := HS.out; have h3 := HL.out; have h5 := HR.out; have h6 := HDd.out
       exact ⟨hk, hm1, hm2, by omega, by omega, by omega⟩
      obtain ⟨q1, q2, q3⟩ := date_bounds hdt
      have E := HO.out
      rw [textOf_eq HT.out hdt, <- cat_txt] at E
      have HE : Hid (_ = O) := E
      clear E hdt HO
      have CY := fun w => cPadS (2000 + k) 4 w (by omega) (by omega)
      rw [padL_four q1] at CY
      have CM := fun w => cPadS m 2 w (by omega) (by omega)
      rw [padL_two q2] at CM
      have CD := fun w => cPadS (s + 1) 2 w (by omega) (by omega)
      rw [padL_two q3] at CD
      have CH := fun w => cPadS (t % 86400 / 3600) 2 w (by omega) (by omega)
      rw [padL_two (by omega)] at CH
      have CI := fun w => cPadS (t % 3600 / 60) 2 w (by omega) (by omega)
      rw [padL_two (by omega)] at CI
      have CS := fun w => cPadS (t % 60) 2 w (by omega) (by omega)
      rw [padL_two (by omega)] at CS
      have zY : (⟨([50, 48] ++ two k).toArray⟩ : ByteArray).size = 4 := rfl
      have zM : (⟨(two m).toArray⟩ : ByteArray).size = 2 := rfl
      have zD : (⟨(two (s + 1)).toArray⟩ : ByteArray).size = 2 := rfl
      have zH : (⟨(two (t % 86400 / 3600)).toArray⟩ : ByteArray).size = 2 := rfl
      have zI : (⟨(two (t % 3600 / 60)).toArray⟩ : ByteArray).size = 2 := rfl
      have zS : (⟨(two (t % 60)).toArray⟩ : ByteArray).size = 2 := rfl
      generalize (⟨([50, 48] ++ two k).toArray⟩ : ByteArray) = bY at *
      generalize (⟨(two m).toArray⟩ : ByteArray) = bM at *
      generalize (⟨(two (s + 1)).toArray⟩ : ByteArray) = bD at *
      generalize (⟨(two (t % 86400 / 3600)).toArray⟩ : ByteArray) = bH at *
      generalize (⟨(two (t % 3600 / 60)).toArray⟩ : ByteArray) = bI at *
      generalize (⟨(two (t % 60)).toArray⟩ : ByteArray) = bS at *
      rw [show ((t % 86400 / 3600 : Nat) : Int) = (t : Int) % 86400 / 3600 by omega] at CH
      rw [show ((t % 3600 / 60 : Nat) : Int) = (t : Int) % 86400 / 60 % 60 by omega] at CI
      rw [show ((t % 60 : Nat) : Int) = (t : Int) % 60 by omega] at CS
      rw [show ((s + 1 : Nat) : Int) = (s : Int) + 1 by omega] at CD
      rw [HY.out] at CY
      clear q1 q2 q3
      go_wp2_with fail
      refine (A _).mono ?_
      rintro e w3 ⟨rfl, hb⟩
      have HB : Hid (Below w'.heap.size w' w3) := HBx.out.trans (hb.mono HBx.out.size)
      clear hb A
      go_wp2_with fail
      refine (CY _).mono ?_
      rintro e w4 ⟨rfl, hb⟩
      replace HB : Hid (Below w'.heap.size w' w4) := HB.out.trans (hb.mono HB.out.size)
      clear hb CY
      go_wp2_with fail
      refine (CM _).mono ?_
      rintro e w5 ⟨rfl, hb⟩
      replace HB : Hid (Below w'.heap.size w' w5) := HB.out.trans (hb.mono HB.out.size)
      clear hb CM
      go_wp2_with fail
      refine (CD _).mono ?_
      rintro e w6 ⟨rfl, hb⟩
      replace HB : Hid (Below w'.heap.size w' w6) := HB.out.trans (hb.mono HB.out.size)
      clear hb CD
      go_wp2_with fail
      refine (CH _).mono ?_
      rintro e w7 ⟨rfl, hb⟩
      replace HB : Hid (Below w'.heap.size w' w7) := HB.out.trans (hb.mono HB.out.size)
      clear hb CH
      go_wp2_with fail
      refine (CI _).mono ?_
      rintro e w8 ⟨rfl, hb⟩
      replace HB : Hid (Below w'.heap.size w' w8) := HB.out.trans (hb.mono HB.out.size)
      clear hb CI
      go_wp2_with fail
      refine (CS _).mono ?_
      rintro e w9 ⟨rfl, hb⟩
      replace HB : Hid (Below w'.heap.size w' w9) := HB.out.trans (hb.mono HB.out.size)
      clear hb CS
      go_wp2_with fail
      go_ret
      exact ⟨congrArg (fun x => Ending.returned (Value.string x)) HE.out, HB.out⟩
   ·go_wp2_with fail
    go_round
    case rel =>
     have h1 := HY.out; have h2 := HR.out; have h3 := HYs.out
     refine ⟨r - 366, k + 1, ?_, ?_, by omega⟩
     ·go_num
     ·rw [<- h1]; go_num
    case measure => simp [intOf]; omega

theorem t_cTextS (t : Int) (w : World) :
  Calls Tryz.prog 74 #[.int .i64 t] w fun e w' => e = .returned (.string ⟨(textOf t).toArray⟩) /\ Below w.heap.size w w' := by
 by_cases h : 0 <= t /\ t <= 3155759999
 ·obtain ⟨n, rfl⟩ : ∃ n : Nat, t = n := ⟨t.toNat, by omega⟩
  exact cTextS_in n w (by omega)
 ·rw [textOf_out h]
  have C := fun w => cTimeS t w
  rw [decide_eq_false h] at C
  go_enter Tryz.func74, Tryz.ntmps74
  go_wp2_with fail
  refine (C _).mono ?_
  rintro e w' ⟨rfl, rfl⟩
  go_wp2_with fail
  go_ret
  exact ⟨rfl, Below.refl _ _⟩

theorem cTextI (t : Int) (w : World) (hL : Laid w) :
  Calls Tryz.prog 113 #[.int .i64 t] w fun e w' => e = .returned (.string ⟨(textOf t).toArray⟩) /\ Below w.heap.size w w' := by
 by_cases h : 0 <= t /\ t <= 3155759999
 ·obtain ⟨n, rfl⟩ : ∃ n : Nat, t = n := ⟨t.toNat, by omega⟩
  exact cTextI_in n w (by omega) hL
 ·rw [textOf_out h]
  have C := fun w => cTimeI t w
  rw [decide_eq_false h] at C
  go_enter Tryz.func113, Tryz.ntmps113
  go_wp2_with fail
  refine (C _).mono ?_
  rintro e w' ⟨rfl, rfl⟩
  go_wp2_with fail
  go_ret
  exact ⟨rfl, Below.refl _ _⟩

end Go.Proofs.YtlpbbkaelbafdaaGreatDoor

namespace Go.Proofs.YtlpbbkaelbafdaaGreatDoor
open Go.RowKit

theorem own_nil (w : World) (B : Nat) (a : Option Addr) : OwnAts w B a [] := fun h => absurd h (Nat.lt_irrefl 0)

set_option maxRecDepth 8000 in
set_option maxHeartbeats 4000000 in
theorem cAddS (w0 wr w : World) (v : Value) (L : List Tk) (name : ByteArray) (x : Say) (a1 : Option Addr) (c1 : Nat) (hrow : RowOf w0 wr v L) (hB : Below wr.heap.size wr w) (hA : OwnAts w wr.heap.size a1 x.attrs) (hn : L.length <= 100000) :
  Calls Tryz.prog 73 #[v, .string name, .slice a1 x.attrs.length c1, .string x.text] w fun e w' => ∃ v', e = .returned v' /\ RowOf w0 w' v' (addN L name x) := by
 have HRW := hid hrow
 have HB := hid hB
 have HBA := hid (hB.alloc hB.size (.cells #[.int .i64 0, .string name, .slice a1 x.attrs.length c1, .string nE] 42))
 have HH := hid (heap_alloc_new w (.cells #[.int .i64 0, .string name, .slice a1 x.attrs.length c1, .string nE] 42))
 have HA := hid (show OwnAts (w.alloc (.cells #[.int .i64 0, .string name, .slice a1 x.attrs.length c1, .string nE] 42)) wr.heap.size a1 x.attrs from fun hl => by
  obtain ⟨g, o, cu, e1, e2, e3, e4⟩ := hA hl
  exact ⟨g, o, cu, e1, e2, blk_alloc e3 _, e4⟩)
 have HN := hid hn
 have E := empty_is x.text
 obtain ⟨nA, hnA⟩ : ∃ nA, x.attrs.length = nA := ⟨_, rfl⟩
 have HNA := hid hnA
 rw [hnA] at HBA HH HA ⊢
 obtain ⟨W, hW⟩ : ∃ W, w.alloc (.cells #[.int .i64 0, .string name, .slice a1 nA c1, .string nE] 42) = W := ⟨_, rfl⟩
 rw [hW] at HBA HH HA
 obtain ⟨sz, hsz⟩ : ∃ sz, w.heap.size = sz := ⟨_, rfl⟩
 rw [hsz] at HH
 clear hrow hB hA hn hnA
 unfold nE at hW
 go_enter Tryz.func73, Tryz.ntmps73
 go_wp2_with (at_builtin; refine wpL_row w0 wr W rfl _ _ rfl v L rfl HRW.out HBA.out ⟨0, name, x.attrs, nE⟩ a1 c1 sz nA rfl HNA.out HH.out HA.out (by have := HN.out; omega) ?_)
 intro v1 w1 hr1
 obtain ⟨a8, c8, rfl, _⟩ := hr1.tk
 have hl1 : (L ++ [(⟨0, name, x.attrs, nE⟩ : Tk)]).length = L.length + 1 := by simp
 rw [hl1] at hr1 ⊢
 have HR1 := hid hr1
 clear hr1 hW hsz hl1
 by_cases ht : x.text.size = 0
 ·rw [decide_eq_true ht] at E
  have HE := hid (show addN L name x = L ++ [⟨0, name, x.attrs, nE⟩] from if_pos ht)
  clear ht
  go_wp2_with fail
  go_ret
  exact ⟨_, rfl, by rw [HE.out]; exact HR1.out⟩
 ·rw [decide_eq_false ht] at E
  have HE := hid (show addN L name x = L ++ [⟨0, name, x.attrs, nE⟩] ++ [⟨(L.length : Int), nE, [], x.text⟩] from if_neg ht)
  clear ht
  have HBX := hid ((Below.refl w1.heap.size w1).alloc (Nat.le_refl _) (.cells #[.int .i64 (L.length : Int), .string nE, .slice none 0 0, .string x.text] 42))
  have HH1 := hid (heap_alloc_new w1 (.cells #[.int .i64 (L.length : Int), .string nE, .slice none 0 0, .string x.text] 42))
  obtain ⟨W1, hW1⟩ : ∃ W, w1.alloc (.cells #[.int .i64 (L.length : Int), .string nE, .slice none 0 0, .string x.text] 42) = W := ⟨_, rfl⟩
  rw [hW1] at HBX HH1
  obtain ⟨s1, hs1⟩ : ∃ sz, w1.heap.size = sz := ⟨_, rfl⟩
  rw [hs1] at HH1
  unfold nE at hW1
  have hn2 : ((L.length : Int) + 1) - 1 = (L.length : Int) := by omega
  have hn3 := HN.out
  obtain ⟨n, hLn⟩ : ∃ n, L.length = n := ⟨_, rfl⟩
  have HLn := hid hLn
  have HLn2 := hid (show (L ++ [(⟨0, name, x.attrs, nE⟩ : Tk)]).length <= 1048576 by simp; omega)
  rw [hLn] at hn2 hn3 hW1 HH1 HR1 HE ⊢
  clear hLn
  go_wp2_with (at_builtin; refine wpL_row w0 w1 W1 rfl _ _ rfl (.slice a8 (n + 1) c8) (L ++ [⟨0, name, x.attrs, nE⟩]) rfl HR1.out HBX.out ⟨(n : Int), nE, [], x.text⟩ none 0 s1 0 rfl rfl HH1.out (own_nil _ _ _) HLn2.out ?_)
  intro v2 w2 hr2
  have HR2 := hid hr2
  clear hr2
  go_wp2_with fail
  go_ret
  exact ⟨v2, rfl, by rw [HE.out, List.append_assoc]; exact HR2.out⟩

end Go.Proofs.YtlpbbkaelbafdaaGreatDoor

namespace Go.Proofs.YtlpbbkaelbafdaaGreatDoor
open Go.RowKit

structure Bx (wr W : World) (t : Tk) (nA : Nat) (a1 : Option Addr) (c1 : Nat) : Prop where
 bel : Below wr.heap.size wr W
 box : W.heap[wr.heap.size]? = some (.cells #[.int .i64 t.kind, .string t.name, .slice a1 nA c1, .string t.text] 42 (0, 0))
 own : OwnAts W (wr.heap.size + 1) a1 t.attrs

theorem Bx.made {wr w2 : World} {t : Tk} {nA c1 ca : Nat} {aa a1 : Option Addr} (hb : Below (wr.heap.size + 1) (wr.alloc (.cells #[.int .i64 t.kind, .string t.name, .slice aa nA ca, .string t.text] 42)) w2) (hA : OwnAts w2 (wr.heap.size + 1) a1 t.attrs) :
  Bx wr (w2.setCell ⟨wr.heap.size, 2, none⟩ (.slice a1 nA c1)) t nA a1 c1 := by
 have h0 := (Below.refl wr.heap.size wr).alloc (Nat.le_refl _) (.cells #[.int .i64 t.kind, .string t.name, .slice aa nA ca, .string t.text] 42)
 have m0 := heap_alloc_new wr (.cells #[.int .i64 t.kind, .string t.name, .slice aa nA ca, .string t.text] 42)
 refine ⟨(h0.trans (hb.mono (Nat.le_succ _))).setCell (p := ⟨wr.heap.size, 2, none⟩) (Nat.le_refl _) _, ?_, own_setG hA (p := ⟨wr.heap.size, 2, none⟩) (Nat.lt_succ_self _) _⟩
 exact box_set ((hb.block _ (Nat.lt_succ_self _)).trans m0) 2 (.slice a1 nA c1)

theorem Bx.kind {wr W : World} {t : Tk} {nA c1 : Nat} {a1 : Option Addr} (h : Bx wr W t nA a1 c1) (k : Int) : Bx wr (W.setCell ⟨wr.heap.size, 0, none⟩ (.int .i64 k)) (shK k t) nA a1 c1 :=
 ⟨h.bel.setCell (p := ⟨wr.heap.size, 0, none⟩) (Nat.le_refl _) _, box_set h.box 0 (.int .i64 k), own_setG h.own (p := ⟨wr.heap.size, 0, none⟩) (Nat.lt_succ_self _) _⟩

theorem wpL_bx (w wr W0 : World) {ops : Array Oper} {rest : List Oper} {o : Oper} {a : Act} {Q : Exit -> Act -> World -> Prop} (hgd : o.guard = none) (s x : Operand)
  (ho : o.op = .call { callee := .builtin .append, args := #[s, x], argTypes := #[28, 28] }) (v : Value) (L : List Tk) (hs : a.eval s = v) (hrow : RowOf w wr v L)
  (t : Tk) (a1 : Option Addr) (c1 nA : Nat) (hx : a.eval x = .slice (some ⟨W0.heap.size, 0, none⟩) 1 1) (hnA : t.attrs.length = nA) (hbx : Bx wr W0 t nA a1 c1) (hn : L.length <= 1048576)
  (h : ∀ v' w', RowOf w w' v' (L ++ [t]) -> wpList Tryz.prog ops Q rest (a.put o.dst v') w') : wpList Tryz.prog ops Q (o :: rest) a (W0.alloc (.cells #[.int .i64 t.kind, .string t.name, .slice a1 nA c1, .string t.text] 42)) :=
 wpL_row w wr _ hgd s x ho v L hs hrow (hbx.bel.alloc hbx.bel.size _) t a1 c1 W0.heap.size nA hx hnA (heap_alloc_new _ _) (own_lift (hbx.own.below ((Below.refl _ _).alloc (Nat.le_refl _) _)) (Nat.le_succ _)) hn h

theorem seg_of {ts : List Tk} {i : Nat} (h : i < ts.length) : ts[i]? = some ts[i] := List.getElem?_eq_getElem h

set_option maxRecDepth 4000 in
set_option maxHeartbeats 4000000 in
theorem cBranchL (a : Option Addr) (cap : Nat) (ts : List Tk) (k : Nat) (w : World) (hR : TkRow w a ts) (hT : TreeP ts) (hk : k < ts.length) (hn : ts.length <= 1048576) (hz : TksSz 1048576 ts) :
  Calls Tryz.prog 78 #[.slice a ts.length cap, .int .i64 (k : Int)] w fun e w' => ∃ v, e = .returned v /\ RowOf w w' v (branchL ts k) := by
 have HR := hid hR
 have HZ := hid hz
 have HT := hid hT
 have h50 : ts.length <= 50 := hT.2.1
 have HB0 := hid ((Below.refl w.heap.size w).alloc (Nat.le_refl _) (.cells #[] 42))
 have M0 := hid (heap_alloc_new w (.cells #[] 42))
 have CE := hid (fun wx (h : TkRow wx a ts) => cEndS a cap ts k wx h hk hn)
 have hE := endN_le hk
 obtain ⟨E, hEE⟩ : ∃ E, endN ts k = E := ⟨_, rfl⟩
 have HBR := hid (show branchL ts k = segN (brF k) ts k (E - k) by unfold branchL; rw [hEE])
 rw [hEE] at CE hE
 rw [HBR.out]
 obtain ⟨n, hnn⟩ : ∃ n, ts.length = n := ⟨_, rfl⟩
 have HN := hid hnn
 rw [hnn] at hn hk hE CE h50 ⊢
 clear hR hz hT hEE hnn HBR
 go_enter Tryz.func78, Tryz.ntmps78
 go_wp2_with fail
 go_loopw [5, 6] (fun v i wr => ∃ m : Nat, i = .int .i64 ((k + m : Nat) : Int) /\ k + m <= E /\ Hid (RowOf w wr v (segN (brF k) ts k m))) (fun _ i _ => E - (intOf i).toNat)
 case atStart => exact ⟨0, rfl, by omega, RowOf.start HB0.out (Nat.le_refl _) M0.out⟩
 case round =>
  clear HB0 M0
  obtain ⟨m, rfl, hm, HX⟩ := hrel
  obtain ⟨i, hi⟩ : ∃ i, k + m = i := ⟨_, rfl⟩
  have HI := hid hi
  rw [hi] at hm ⊢
  by_cases hlt : i < E
  ·have his : i < ts.length := by rw [HN.out]; omega
   have hin : (i : Int) < (n : Int) := by omega
   have hiE : (i : Int) < (E : Int) := by omega
   have HTS := hid (segN_next (f := brF k) (ts := ts) (k := k) (m := m) (t := ts[i]) (by rw [hi]; exact seg_of his))
   rw [hi] at HTS
   have HLT := hid (show (segN (brF k) ts k m).length <= 1048576 by rw [segN_len m (by rw [hi]; omega)]; omega)
   have HZT := hid (HZ.out _ (List.getElem_mem his))
   have hkb := tree_kind HT.out (seg_of his)
   obtain ⟨b, o, aa, ca, e', hb, q0, q1, q2, q3, hA⟩ := (HR.out.below HX.out.bel) i his
   subst e'
   have HRW := hid (HR.out.below HX.out.bel)
   have HAT := hid hA
   obtain ⟨t, ht⟩ : ∃ t, ts[i] = t := ⟨_, rfl⟩
   rw [ht] at q0 q1 q2 q3 HAT HZT HTS hkb
   clear ht hA
   obtain ⟨nA, hnA⟩ : ∃ nA, t.attrs.length = nA := ⟨_, rfl⟩
   have HNA := hid hnA
   rw [hnA] at q2
   clear hnA
   have HL1 := hid ((Below.refl wr.heap.size wr).alloc (Nat.le_refl _) (.cells #[.int .i64 t.kind, .string t.name, .slice aa nA ca, .string t.text] 42))
   have CC := hid (fun wx (h : AtRow wx aa t.attrs) => cCopyS aa ca t.attrs wx h HZT.out.2.1)
   rw [HNA.out] at CC
   obtain ⟨K, hK⟩ : ∃ K, t.kind = K := ⟨_, rfl⟩
   have HK := hid hK
   rw [hK] at q0 hkb HL1
   obtain ⟨hk1, hk2⟩ := hkb
   clear hK hi
   go_wp2_with fail
   refine (CE.out _ HRW.out).mono ?_
   rintro e w1 ⟨rfl, rfl⟩
   go_wp2_with fail
   refine (CC.out _ (HAT.out.below HL1.out)).mono ?_
   rintro e w2 ⟨a1, c1, rfl, ha1, hb2⟩
   have HBX := hid (Bx.made (c1 := c1) (t := t) (nA := nA) (aa := aa) (ca := ca) (a1 := a1) (w2 := w2) (by rw [HK.out]; simpa using hb2) (by simpa using ha1))
   have M2 := hid (blk_below (heap_alloc_new _ _) hb2)
   obtain ⟨⟨x0, x1, x2, x3⟩, f0, f1, f2, f3⟩ := box4 M2.out
   clear ha1 hb2 CC HL1 q0 q1 q2 q3 hb M2
   obtain ⟨w3, hw3⟩ : ∃ w3, w2.setCell ⟨w1.heap.size, 2, none⟩ (.slice a1 nA c1) = w3 := ⟨_, rfl⟩
   rw [hw3] at HBX
   obtain ⟨⟨y0, y1, y2, y3⟩, g0, g1, g2, g3⟩ := box4 HBX.out.box
   rw [HK.out] at y0
   have HBX4 := hid (HBX.out.kind (K - (k : Int)))
   obtain ⟨w4, hw4⟩ : ∃ w4, w3.setCell ⟨w1.heap.size, 0, none⟩ (.int .i64 (K - (k : Int))) = w4 := ⟨_, rfl⟩
   rw [hw4] at HBX4
   obtain ⟨⟨z0, z1, z2, z3⟩, h0, h1, h2, h3⟩ := box4 HBX4.out.box
   by_cases hm0 : m = 0
   ·have hik : i = k := by rw [<- HI.out, hm0]; rfl
    have HBX5 := hid (HBX4.out.kind (-1))
    obtain ⟨w5, hw5⟩ : ∃ w5, w4.setCell ⟨w1.heap.size, 0, none⟩ (.int .i64 (-1)) = w5 := ⟨_, rfl⟩
    rw [hw5] at HBX5
    obtain ⟨⟨v0, v1, v2, v3⟩, _⟩ := box4 HBX5.out.box
    have HFN := hid (show shK (-1) (shK (K - (k : Int)) t) = shK (brF k i t) t by unfold brF; rw [if_pos hik]; rfl)
    have hqq : ((i : Int) == (k : Int)) = true := by simp; omega
    clear hik hm0
    go_wp2_with (at_builtin; refine wpL_bx w w1 w5 rfl _ _ rfl u5 (segN (brF k) ts k m) rfl HX.out (shK (-1) (shK (K - (k : Int)) t)) a1 c1 nA rfl HNA.out HBX5.out HLT.out ?_)
    intro v6 w6 hr6
    have HR6 := hid hr6
    rw [HFN.out, <- HTS.out] at HR6
    clear hr6 x0 x1 x2 x3 y0 y1 y2 y3 z0 z1 z2 z3 v0 v1 v2 v3 hw3 hw4 hw5
    go_wp2_with fail
    go_roundw
    case rel => exact ⟨m + 1, by rw [<- HI.out]; go_num, by have := HI.out; omega, HR6.out⟩
    case measure => simp [intOf]; omega
   ·have hik : ¬ i = k := by have := HI.out; omega
    have HFN := hid (show shK (K - (k : Int)) t = shK (brF k i t) t by unfold brF; rw [if_neg hik, HK.out])
    have hqq : ((i : Int) == (k : Int)) = false := by simp; omega
    clear hik hm0
    go_wp2_with (at_builtin; refine wpL_bx w w1 w4 rfl _ _ rfl u5 (segN (brF k) ts k m) rfl HX.out (shK (K - (k : Int)) t) a1 c1 nA rfl HNA.out HBX4.out HLT.out ?_)
    intro v6 w6 hr6
    have HR6 := hid hr6
    rw [HFN.out, <- HTS.out] at HR6
    clear hr6 x0 x1 x2 x3 y0 y1 y2 y3 z0 z1 z2 z3 hw3 hw4
    go_wp2_with fail
    go_roundw
    case rel => exact ⟨m + 1, by rw [<- HI.out]; go_num, by have := HI.out; omega, HR6.out⟩
    case measure => simp [intOf]; omega
  ·have hie : i = E := by omega
   have HRW := hid (HR.out.below HX.out.bel)
   have HY := hid (show RowOf w wr u5 (segN (brF k) ts k (E - k)) by
    have h := HX.out
    rw [show E - k = m by omega]
    exact h)
   have hiE : ¬ (i : Int) < (E : Int) := by omega
   clear HX hie
   go_wp2_with fail
   refine (CE.out _ HRW.out).mono ?_
   rintro e w1 ⟨rfl, rfl⟩
   go_wp2_with fail
   go_ret
   exact ⟨_, rfl, HY.out⟩

def TreeAns (w : World) (R : List Tk) (b : Bool) (e : Ending) (w' : World) : Prop := ∃ v, e = .returned (.tuple #[v, .bool b]) /\ RowOf w w' v R

theorem TreeAns.none {w wr : World} (hb : Below w.heap.size w wr) : TreeAns w [] false (.returned (.tuple #[.slice (some ⟨wr.heap.size, 0, none⟩) 0 0, .bool false])) (wr.alloc (.cells #[] 42)) :=
 ⟨_, rfl, RowOf.start (hb.alloc hb.size _) hb.size (heap_alloc_new _ _)⟩

noncomputable def branchI (ts : List Tk) (x : Int) : List Tk := if elemB ts x then branchL ts x.toNat else []

theorem RowOf.later {w w1 w' : World} {v : Value} {L : List Tk} (hb : Below w.heap.size w w1) (h : RowOf w1 w' v L) : RowOf w w' v L := by
 obtain ⟨es, a, c, e1, e2, e3⟩ := h.row
 exact ⟨⟨es, a, c, e1, e2.mono hb.size, e3⟩, bb hb h.bel⟩

set_option maxHeartbeats 2000000 in
theorem cBranchS (a : Option Addr) (cap : Nat) (ts : List Tk) (x : Int) (w : World) (hR : TkRow w a ts) (hn : ts.length <= 1048576) (hz : TksSz 1048576 ts) :
  Calls Tryz.prog 30 #[.slice a ts.length cap, .int .i64 x] w (TreeAns w (branchI ts x) (elemB ts x)) := by
 have C := hid (c_spec_l9Element a cap ts x w hR hn hz)
 cases hh : elemB ts x with
 | false =>
  have HE := hid (show branchI ts x = [] by unfold branchI; rw [hh]; rfl)
  rw [HE.out]
  rw [hh] at C
  clear hh HE hR hz
  generalize ts.length = n at *
  go_enter Tryz.func30, Tryz.ntmps30
  go_wp2_with fail
  refine C.out.mono ?_
  rintro e w1 ⟨rfl, hb1⟩
  have HB1 := hid hb1
  clear hb1 C
  go_wp2_with fail
  go_ret2
  exact TreeAns.none HB1.out
 | true =>
  obtain ⟨hT, k, rfl, hk⟩ := elemB_t hh
  have HE := hid (show branchI ts (k : Int) = branchL ts k by unfold branchI; rw [hh]; rfl)
  rw [HE.out]
  rw [hh] at C
  have CM := hid (fun wx (hb : Below w.heap.size w wx) => cBranchL a cap ts k wx (hR.below hb) hT hk hn hz)
  clear hh HE hR hz hT hk
  generalize branchL ts k = L at *
  generalize ts.length = n at *
  go_enter Tryz.func30, Tryz.ntmps30
  go_wp2_with fail
  refine C.out.mono ?_
  rintro e w1 ⟨rfl, hb1⟩
  have CM1 := hid (CM.out _ hb1)
  have HB1 := hid hb1
  clear hb1 C CM
  go_wp2_with fail
  refine CM1.out.mono ?_
  rintro e w2 ⟨v, rfl, hr2⟩
  have HR2 := hid (RowOf.later HB1.out hr2)
  clear hr2 CM1
  go_wp2_with fail
  go_ret2
  exact ⟨_, rfl, HR2.out⟩

end Go.Proofs.YtlpbbkaelbafdaaGreatDoor
