/- Contracts of TimeText, of the program and of the specification: one text. -/
import Derived.Test.YtbphbjkmgmgpkaaDoorTDate
import Derived.Test.YtbphbjkmgmgpkaaDoorTPadI
namespace Go.Proofs.YtbphbjkmgmgpkaaDoor
open Go.RowKit
set_option linter.unusedVariables false
set_option linter.unusedSimpArgs false

theorem date_ex : ∀ d, d < 36525 → ∃ k m dd, IsDate d k m dd
  | 0, _ => ⟨0, 1, 1, by decide, by decide, by decide, by decide, by decide, rfl⟩
  | d + 1, h => by
    obtain ⟨k, m, dd, a⟩ := date_ex d (by omega)
    have he := a.eq; have h1 := a.d1; have hm0 := a.m0; have hm1 := a.m1; have hk := a.k1; have h0 := a.d0
    by_cases c1 : dd < dm (lp k) m
    · exact ⟨k, m, dd + 1, hk, hm0, hm1, by omega, by omega, by omega⟩
    · have e := mb_succ (lp k) m hm0 hm1
      by_cases c2 : m < 12
      · exact ⟨k, m + 1, 1, hk, by omega, by omega, by omega, by have := (dm_pos (lp k) (m + 1) (by omega) (by omega)).1; omega, by omega⟩
      · have : m = 12 := by omega
        subst this
        have e2 : mb (lp k) (12 + 1) = 365 + lp k := mb_13 _
        have e3 := yb_succ k
        have hk1 : k + 1 < 100 := yb_lt_inv (by omega)
        refine ⟨k + 1, 1, 1, hk1, by omega, by omega, by omega, by simp [dm], ?_⟩
        show d + 1 + 1 = yb (k + 1) + 0 + 1
        omega

open Classical in
noncomputable def pickText (t : Nat) : List UInt8 := if h : ∃ l, IsText t l then h.choose else []

/-- The text of a time; empty of no time. -/
noncomputable def textOf (t : Int) : List UInt8 := if 0 ≤ t ∧ t ≤ 3155759999 then pickText t.toNat else []

theorem isText_ex {t : Nat} (h : t ≤ 3155759999) : ∃ l, IsText t l := by
  obtain ⟨k, m, dd, a⟩ := date_ex (t / 86400) (by omega)
  exact ⟨_, k, m, dd, a, rfl⟩

theorem textOf_is {t : Nat} (h : t ≤ 3155759999) : IsText t (textOf t) := by
  have hx := isText_ex h
  unfold textOf
  rw [if_pos (by omega), Int.toNat_natCast]
  unfold pickText
  rw [dif_pos hx]
  exact hx.choose_spec

theorem textOf_eq {t k m dd : Nat} (h : t ≤ 3155759999) (a : IsDate (t / 86400) k m dd) : textOf t = txt k m dd (t % 86400 / 3600) (t % 3600 / 60) (t % 60) :=
  isText_unique (textOf_is h) ⟨k, m, dd, a, rfl⟩

theorem textOf_out {t : Int} (h : ¬ (0 ≤ t ∧ t ≤ 3155759999)) : textOf t = [] := by
  unfold textOf
  rw [if_neg h]

theorem two_len (n : Nat) : (two n).length = 2 := rfl

theorem cTwo (n : Nat) (w : World) (hn : n < 100) (hL : Laid w) :
    Calls Tryd.prog 23 #[.int .i64 n] w fun e w' => e = .returned (.string ⟨(two n).toArray⟩) ∧ Below w.heap.size w w' := by
  have C := cPadI n 2 w (by omega) (by omega) hL
  rw [padL_two hn] at C
  obtain ⟨b, hb⟩ : ∃ b : ByteArray, (⟨(two n).toArray⟩ : ByteArray) = b := ⟨_, rfl⟩
  rw [hb] at C ⊢
  clear hb
  go_enter Tryd.func23, Tryd.ntmps23
  go_wp2_with fail
  refine C.mono ?_
  rintro e w1 ⟨rfl, hb1⟩
  go_wp2_with fail
  go_ret
  exact ⟨rfl, hb1⟩

theorem cat_txt (k m dd h mi s : Nat) : ((((((((((((⟨([50, 48] ++ two k).toArray⟩ : ByteArray) ++ ⟨#[45]⟩) ++ ⟨(two m).toArray⟩) ++ ⟨#[45]⟩) ++ ⟨(two dd).toArray⟩) ++ ⟨#[84]⟩) ++ ⟨(two h).toArray⟩) ++ ⟨#[58]⟩) ++ ⟨(two mi).toArray⟩) ++ ⟨#[58]⟩) ++ ⟨(two s).toArray⟩) ++ ⟨#[90]⟩ : ByteArray) = ⟨(txt k m dd h mi s).toArray⟩ := by
  apply ByteArray.ext
  apply Array.toList_inj.1
  simp [ByteArray.data_append, txt]

set_option maxHeartbeats 4000000 in
theorem cTextI_in (t : Nat) (w : World) (ht : t ≤ 3155759999) (hL : Laid w) :
    Calls Tryd.prog 9 #[.int .i64 t] w fun e w' => e = .returned (.string ⟨(textOf t).toArray⟩) ∧ Below w.heap.size w w' := by
  have HL : Hid (Laid w) := hL
  clear hL
  have C0 := fun w => cTimeI t w
  rw [decide_eq_true (show (0 : Int) ≤ t ∧ (t : Int) ≤ 3155759999 by omega)] at C0
  have C1 := fun w hM => cDateOf (t / 86400) w (by omega) hM
  rw [show ((t / 86400 : Nat) : Int) = (t : Int) / 86400 by omega] at C1
  have HT : Hid (t ≤ 3155759999) := ht
  obtain ⟨O, hO⟩ : ∃ O : ByteArray, (⟨(textOf t).toArray⟩ : ByteArray) = O := ⟨_, rfl⟩
  have HO : Hid ((⟨(textOf t).toArray⟩ : ByteArray) = O) := hO
  rw [hO]
  clear hO
  go_enter Tryd.func9, Tryd.ntmps9
  go_wp2_with fail
  refine (C0 _).mono ?_
  rintro e w' ⟨rfl, rfl⟩
  go_wp2_with fail
  refine (C1 _ HL.out.1).mono ?_
  rintro e w1 ⟨k, m, dd, rfl, hD, hb1⟩
  obtain ⟨q1, q2, q3⟩ := date_bounds hD
  have E := HO.out
  rw [textOf_eq HT.out hD, ← cat_txt] at E
  have HE : Hid (_ = O) := E
  clear E hD C0 C1 HO
  have CY := fun w hL => cPadI (2000 + k) 4 w (by omega) (by omega) hL
  rw [padL_four q1] at CY
  have CM := fun w hL => cTwo m w q2 hL
  have CD := fun w hL => cTwo dd w q3 hL
  have CH := fun w hL => cTwo (t % 86400 / 3600) w (by omega) hL
  have CI := fun w hL => cTwo (t % 3600 / 60) w (by omega) hL
  have CS := fun w hL => cTwo (t % 60) w (by omega) hL
  have zY : (⟨([50, 48] ++ two k).toArray⟩ : ByteArray).size = 4 := rfl
  have zM : (⟨(two m).toArray⟩ : ByteArray).size = 2 := rfl
  have zD : (⟨(two dd).toArray⟩ : ByteArray).size = 2 := rfl
  have zH : (⟨(two (t % 86400 / 3600)).toArray⟩ : ByteArray).size = 2 := rfl
  have zI : (⟨(two (t % 3600 / 60)).toArray⟩ : ByteArray).size = 2 := rfl
  have zS : (⟨(two (t % 60)).toArray⟩ : ByteArray).size = 2 := rfl
  generalize (⟨([50, 48] ++ two k).toArray⟩ : ByteArray) = bY at *
  generalize (⟨(two m).toArray⟩ : ByteArray) = bM at *
  generalize (⟨(two dd).toArray⟩ : ByteArray) = bD at *
  generalize (⟨(two (t % 86400 / 3600)).toArray⟩ : ByteArray) = bH at *
  generalize (⟨(two (t % 3600 / 60)).toArray⟩ : ByteArray) = bI at *
  generalize (⟨(two (t % 60)).toArray⟩ : ByteArray) = bS at *
  rw [show ((t % 86400 / 3600 : Nat) : Int) = (t : Int) % 86400 / 3600 by omega] at CH
  rw [show ((t % 3600 / 60 : Nat) : Int) = (t : Int) % 3600 / 60 by omega] at CI
  rw [show ((t % 60 : Nat) : Int) = (t : Int) % 60 by omega] at CS
  generalize ((2000 + k : Nat) : Int) = y at *
  clear q1 q2 q3 ht
  have HB : Hid (Below w'.heap.size w' w1) := hb1
  clear hb1
  go_wp2_with fail
  refine (CY _ (HL.out.below HB.out)).mono ?_
  rintro e w2 ⟨rfl, hb⟩
  replace HB : Hid (Below w'.heap.size w' w2) := HB.out.trans (hb.mono HB.out.size)
  clear hb CY
  go_wp2_with fail
  refine (CM _ (HL.out.below HB.out)).mono ?_
  rintro e w3 ⟨rfl, hb⟩
  replace HB : Hid (Below w'.heap.size w' w3) := HB.out.trans (hb.mono HB.out.size)
  clear hb CM
  go_wp2_with fail
  refine (CD _ (HL.out.below HB.out)).mono ?_
  rintro e w4 ⟨rfl, hb⟩
  replace HB : Hid (Below w'.heap.size w' w4) := HB.out.trans (hb.mono HB.out.size)
  clear hb CD
  go_wp2_with fail
  refine (CH _ (HL.out.below HB.out)).mono ?_
  rintro e w5 ⟨rfl, hb⟩
  replace HB : Hid (Below w'.heap.size w' w5) := HB.out.trans (hb.mono HB.out.size)
  clear hb CH
  go_wp2_with fail
  refine (CI _ (HL.out.below HB.out)).mono ?_
  rintro e w6 ⟨rfl, hb⟩
  replace HB : Hid (Below w'.heap.size w' w6) := HB.out.trans (hb.mono HB.out.size)
  clear hb CI
  go_wp2_with fail
  refine (CS _ (HL.out.below HB.out)).mono ?_
  rintro e w7 ⟨rfl, hb⟩
  replace HB : Hid (Below w'.heap.size w' w7) := HB.out.trans (hb.mono HB.out.size)
  clear hb CS
  go_wp2_with fail
  go_ret
  exact ⟨congrArg (fun x => Ending.returned (Value.string x)) HE.out, HB.out⟩

end Go.Proofs.YtbphbjkmgmgpkaaDoor
