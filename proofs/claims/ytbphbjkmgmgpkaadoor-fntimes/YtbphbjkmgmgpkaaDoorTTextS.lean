/- Contract of the specification's TimeText: the same text. -/
import Derived.Test.YtbphbjkmgmgpkaaDoorTText
namespace Go.Proofs.YtbphbjkmgmgpkaaDoor
open Go.RowKit
set_option linter.unusedVariables false
set_option linter.unusedSimpArgs false

set_option maxHeartbeats 8000000 in
set_option maxRecDepth 4000 in
theorem cTextS_in (t : Nat) (w : World) (ht : t ≤ 3155759999) :
    Calls Tryd.prog 14 #[.int .i64 t] w fun e w' => e = .returned (.string ⟨(textOf t).toArray⟩) ∧ Below w.heap.size w w' := by
  have C0 := fun w => cTimeS t w
  rw [decide_eq_true (show (0 : Int) ≤ t ∧ (t : Int) ≤ 3155759999 by omega)] at C0
  have HT : Hid (t ≤ 3155759999) := ht
  obtain ⟨O, hO⟩ : ∃ O : ByteArray, (⟨(textOf t).toArray⟩ : ByteArray) = O := ⟨_, rfl⟩
  have HO : Hid ((⟨(textOf t).toArray⟩ : ByteArray) = O) := hO
  rw [hO]
  obtain ⟨d, hd⟩ : ∃ d : Nat, t / 86400 = d := ⟨_, rfl⟩
  have HDd : Hid (t / 86400 = d) := hd
  have hdi : (t : Int) / 86400 = (d : Int) := by omega
  have hd2 : d < 36525 := by omega
  obtain ⟨lf, hlf⟩ : ∃ lf : Nat, t % 86400 = lf := ⟨_, rfl⟩
  have HLf : Hid (t % 86400 = lf) := hlf
  have hlfi : (t : Int) % 86400 = (lf : Int) := by omega
  have hlf2 : lf < 86400 := by omega
  clear hO ht hd hlf
  go_enter Tryd.func14, Tryd.ntmps14
  go_wp2_with fail
  refine (C0 _).mono ?_
  rintro e w' ⟨rfl, rfl⟩
  clear C0
  go_wp2_with fail
  clear hdi hlfi
  go_loop [3, 5] (fun day year => ∃ r k : Nat, day = .int .i64 (r : Int) ∧ year = .int .i64 ((2000 + k : Nat) : Int) ∧ r + yb k = d) (fun day _ => (intOf day).toNat)
  case atStart => exact ⟨d, 0, rfl, rfl, by simp [yb]⟩
  case round =>
    obtain ⟨r, k, rfl, rfl, hr⟩ := hrel
    have hk : k < 100 := yb_lt_inv (by omega)
    have hr2 : r ≤ 36525 := by omega
    have HR : Hid (r + yb k = d) := hr
    have e4 : ((((2000 + k : Nat) : Int) % 4) == 0) = (lp k == 1) := by
      unfold lp
      split
      · simp; omega
      · simp; omega
    have e5 : ((((2000 + k : Nat) : Int).tmod 4) == 0) = (lp k == 1) := by
      rw [Int.tmod_eq_emod_of_nonneg (by omega)]
      exact e4
    have hys := yb_succ k
    obtain ⟨l, hl⟩ : ∃ l : Nat, lp k = l := ⟨_, rfl⟩
    have hl01 : l = 0 ∨ l = 1 := by rw [← hl]; unfold lp; split <;> simp
    have HL : Hid (lp k = l) := hl
    rw [hl] at e4 e5 hys
    have HYs : Hid (yb (k + 1) = yb k + (365 + l)) := hys
    obtain ⟨y, hy⟩ : ∃ y : Int, ((2000 + k : Nat) : Int) = y := ⟨_, rfl⟩
    have HY : Hid (((2000 + k : Nat) : Int) = y) := hy
    have hy1 : 2000 ≤ y := by omega
    have hy2 : y ≤ 2099 := by omega
    rw [hy] at e4 e5 ⊢
    clear hy hr hl hys
    rcases hl01 with rfl | rfl
    · have e6 : (y % 4 == 0) = false := e4
      have e7 : (y.tmod 4 == 0) = false := e5
      clear e4 e5
      by_cases hlt : r < 365
      · go_wp2_with fail
        go_loopw [3, 7] (fun day month wx => ∃ s m : Nat, day = .int .i64 (s : Int) ∧ month = .int .i64 (m : Int) ∧ 1 ≤ m ∧ m ≤ 12 ∧ s + mb (lp k) m = r ∧ Below w'.heap.size w' wx) (fun day _ _ => (intOf day).toNat)
        case atStart => exact ⟨r, 1, rfl, rfl, by omega, by omega, rfl, Below.refl _ _⟩
        case round =>
          clear e6 e7
          obtain ⟨s, m, rfl, rfl, hm1, hm2, hs, hB⟩ := hrel
          have A := fun wx => cDaysS_in k m wx hk hm1 hm2
          obtain ⟨D, hD⟩ : ∃ D : Nat, dm (lp k) m = D := ⟨_, rfl⟩
          have hD1 : 28 ≤ D := by rw [← hD]; exact (dm_pos _ _ hm1 hm2).1
          have hD2 : D ≤ 32 := by
            have := (dm_pos (lp k) m hm1 hm2).2
            have : lp k ≤ 1 := by unfold lp; split <;> omega
            omega
          have HD : Hid (dm (lp k) m = D) := hD
          have HS : Hid (s + mb (lp k) m = r) := hs
          have hs2 : s ≤ 366 := by omega
          have HBx : Hid (Below w'.heap.size w' wr) := hB
          rw [hD, HY.out] at A
          clear hD hs hB
          by_cases hlt2 : D ≤ s
          · go_wp2_with fail
            refine (A _).mono ?_
            rintro e w3 ⟨rfl, hb3⟩
            have hB3 : Below w'.heap.size w' w3 := HBx.out.trans (hb3.mono HBx.out.size)
            have HB3 : Hid (Below w'.heap.size w' w3) := hB3
            clear hb3 hB3
            go_wp2_with fail
            refine (A _).mono ?_
            rintro e w4 ⟨rfl, hb4⟩
            have hB4 : Below w'.heap.size w' w4 := HB3.out.trans (hb4.mono HB3.out.size)
            clear hb4 A
            go_wp2_with fail
            go_roundw
            case rel =>
              have h1 := HD.out; have h2 := HS.out; have h3 := HL.out
              have h4 := month_lt hm1 hm2 h2 (by omega) (by omega)
              refine ⟨s - D, m + 1, ?_, ?_, by omega, by omega, ?_, hB4⟩
              · go_num
              · go_num
              · rw [mb_succ _ _ hm1 hm2, h1]; omega
            case measure => simp [intOf]; omega
          · have hdt : IsDate (t / 86400) k m (s + 1) := by
              have h1 := HD.out; have h2 := HS.out; have h3 := HL.out; have h5 := HR.out; have h6 := HDd.out
              exact ⟨hk, hm1, hm2, by omega, by omega, by omega⟩
            obtain ⟨q1, q2, q3⟩ := date_bounds hdt
            have E := HO.out
            rw [textOf_eq HT.out hdt, ← cat_txt] at E
            have HE : Hid (_ = O) := E
            clear E hdt HO
            have CY := fun w => cPadS (2000 + k) 4 w (by omega) (by omega)
            rw [padL_four q1] at CY
            have CM := fun w => cPadS m 2 w (by omega) (by omega)
            rw [padL_two q2] at CM
            have CD := fun w => cPadS (s + 1) 2 w (by omega) (by omega)
            rw [padL_two q3] at CD
            have CH := fun w => cPadS (t % 86400 / 3600) 2 w (by omega) (by omega)
            rw [padL_two (by omega)] at CH
            have CI := fun w => cPadS (t % 3600 / 60) 2 w (by omega) (by omega)
            rw [padL_two (by omega)] at CI
            have CS := fun w => cPadS (t % 60) 2 w (by omega) (by omega)
            rw [padL_two (by omega)] at CS
            have zY : (⟨([50, 48] ++ two k).toArray⟩ : ByteArray).size = 4 := rfl
            have zM : (⟨(two m).toArray⟩ : ByteArray).size = 2 := rfl
            have zD : (⟨(two (s + 1)).toArray⟩ : ByteArray).size = 2 := rfl
            have zH : (⟨(two (t % 86400 / 3600)).toArray⟩ : ByteArray).size = 2 := rfl
            have zI : (⟨(two (t % 3600 / 60)).toArray⟩ : ByteArray).size = 2 := rfl
            have zS : (⟨(two (t % 60)).toArray⟩ : ByteArray).size = 2 := rfl
            generalize (⟨([50, 48] ++ two k).toArray⟩ : ByteArray) = bY at *
            generalize (⟨(two m).toArray⟩ : ByteArray) = bM at *
            generalize (⟨(two (s + 1)).toArray⟩ : ByteArray) = bD at *
            generalize (⟨(two (t % 86400 / 3600)).toArray⟩ : ByteArray) = bH at *
            generalize (⟨(two (t % 3600 / 60)).toArray⟩ : ByteArray) = bI at *
            generalize (⟨(two (t % 60)).toArray⟩ : ByteArray) = bS at *
            rw [show ((t % 86400 / 3600 : Nat) : Int) = (t : Int) % 86400 / 3600 by omega] at CH
            rw [show ((t % 3600 / 60 : Nat) : Int) = (t : Int) % 86400 / 60 % 60 by omega] at CI
            rw [show ((t % 60 : Nat) : Int) = (t : Int) % 60 by omega] at CS
            rw [show ((s + 1 : Nat) : Int) = (s : Int) + 1 by omega] at CD
            rw [HY.out] at CY
            clear q1 q2 q3
            go_wp2_with fail
            refine (A _).mono ?_
            rintro e w3 ⟨rfl, hb⟩
            have HB : Hid (Below w'.heap.size w' w3) := HBx.out.trans (hb.mono HBx.out.size)
            clear hb A
            go_wp2_with fail
            refine (CY _).mono ?_
            rintro e w4 ⟨rfl, hb⟩
            replace HB : Hid (Below w'.heap.size w' w4) := HB.out.trans (hb.mono HB.out.size)
            clear hb CY
            go_wp2_with fail
            refine (CM _).mono ?_
            rintro e w5 ⟨rfl, hb⟩
            replace HB : Hid (Below w'.heap.size w' w5) := HB.out.trans (hb.mono HB.out.size)
            clear hb CM
            go_wp2_with fail
            refine (CD _).mono ?_
            rintro e w6 ⟨rfl, hb⟩
            replace HB : Hid (Below w'.heap.size w' w6) := HB.out.trans (hb.mono HB.out.size)
            clear hb CD
            go_wp2_with fail
            refine (CH _).mono ?_
            rintro e w7 ⟨rfl, hb⟩
            replace HB : Hid (Below w'.heap.size w' w7) := HB.out.trans (hb.mono HB.out.size)
            clear hb CH
            go_wp2_with fail
            refine (CI _).mono ?_
            rintro e w8 ⟨rfl, hb⟩
            replace HB : Hid (Below w'.heap.size w' w8) := HB.out.trans (hb.mono HB.out.size)
            clear hb CI
            go_wp2_with fail
            refine (CS _).mono ?_
            rintro e w9 ⟨rfl, hb⟩
            replace HB : Hid (Below w'.heap.size w' w9) := HB.out.trans (hb.mono HB.out.size)
            clear hb CS
            go_wp2_with fail
            go_ret
            exact ⟨congrArg (fun x => Ending.returned (Value.string x)) HE.out, HB.out⟩
      · go_wp2_with fail
        go_round
        case rel =>
          have h1 := HY.out; have h2 := HR.out; have h3 := HYs.out
          refine ⟨r - 365, k + 1, ?_, ?_, by omega⟩
          · go_num
          · rw [← h1]; go_num
        case measure => simp [intOf]; omega
    · have e6 : (y % 4 == 0) = true := e4
      have e7 : (y.tmod 4 == 0) = true := e5
      clear e4 e5
      by_cases hlt : r < 366
      · go_wp2_with fail
        go_loopw [3, 7] (fun day month wx => ∃ s m : Nat, day = .int .i64 (s : Int) ∧ month = .int .i64 (m : Int) ∧ 1 ≤ m ∧ m ≤ 12 ∧ s + mb (lp k) m = r ∧ Below w'.heap.size w' wx) (fun day _ _ => (intOf day).toNat)
        case atStart => exact ⟨r, 1, rfl, rfl, by omega, by omega, rfl, Below.refl _ _⟩
        case round =>
          clear e6 e7
          obtain ⟨s, m, rfl, rfl, hm1, hm2, hs, hB⟩ := hrel
          have A := fun wx => cDaysS_in k m wx hk hm1 hm2
          obtain ⟨D, hD⟩ : ∃ D : Nat, dm (lp k) m = D := ⟨_, rfl⟩
          have hD1 : 28 ≤ D := by rw [← hD]; exact (dm_pos _ _ hm1 hm2).1
          have hD2 : D ≤ 32 := by
            have := (dm_pos (lp k) m hm1 hm2).2
            have : lp k ≤ 1 := by unfold lp; split <;> omega
            omega
          have HD : Hid (dm (lp k) m = D) := hD
          have HS : Hid (s + mb (lp k) m = r) := hs
          have hs2 : s ≤ 366 := by omega
          have HBx : Hid (Below w'.heap.size w' wr) := hB
          rw [hD, HY.out] at A
          clear hD hs hB
          by_cases hlt2 : D ≤ s
          · go_wp2_with fail
            refine (A _).mono ?_
            rintro e w3 ⟨rfl, hb3⟩
            have hB3 : Below w'.heap.size w' w3 := HBx.out.trans (hb3.mono HBx.out.size)
            have HB3 : Hid (Below w'.heap.size w' w3) := hB3
            clear hb3 hB3
            go_wp2_with fail
            refine (A _).mono ?_
            rintro e w4 ⟨rfl, hb4⟩
            have hB4 : Below w'.heap.size w' w4 := HB3.out.trans (hb4.mono HB3.out.size)
            clear hb4 A
            go_wp2_with fail
            go_roundw
            case rel =>
              have h1 := HD.out; have h2 := HS.out; have h3 := HL.out
              have h4 := month_lt hm1 hm2 h2 (by omega) (by omega)
              refine ⟨s - D, m + 1, ?_, ?_, by omega, by omega, ?_, hB4⟩
              · go_num
              · go_num
              · rw [mb_succ _ _ hm1 hm2, h1]; omega
            case measure => simp [intOf]; omega
          · have hdt : IsDate (t / 86400) k m (s + 1) := by
              have h1 := HD.out; have h2 := HS.out; have h3 := HL.out; have h5 := HR.out; have h6 := HDd.out
              exact ⟨hk, hm1, hm2, by omega, by omega, by omega⟩
            obtain ⟨q1, q2, q3⟩ := date_bounds hdt
            have E := HO.out
            rw [textOf_eq HT.out hdt, ← cat_txt] at E
            have HE : Hid (_ = O) := E
            clear E hdt HO
            have CY := fun w => cPadS (2000 + k) 4 w (by omega) (by omega)
            rw [padL_four q1] at CY
            have CM := fun w => cPadS m 2 w (by omega) (by omega)
            rw [padL_two q2] at CM
            have CD := fun w => cPadS (s + 1) 2 w (by omega) (by omega)
            rw [padL_two q3] at CD
            have CH := fun w => cPadS (t % 86400 / 3600) 2 w (by omega) (by omega)
            rw [padL_two (by omega)] at CH
            have CI := fun w => cPadS (t % 3600 / 60) 2 w (by omega) (by omega)
            rw [padL_two (by omega)] at CI
            have CS := fun w => cPadS (t % 60) 2 w (by omega) (by omega)
            rw [padL_two (by omega)] at CS
            have zY : (⟨([50, 48] ++ two k).toArray⟩ : ByteArray).size = 4 := rfl
            have zM : (⟨(two m).toArray⟩ : ByteArray).size = 2 := rfl
            have zD : (⟨(two (s + 1)).toArray⟩ : ByteArray).size = 2 := rfl
            have zH : (⟨(two (t % 86400 / 3600)).toArray⟩ : ByteArray).size = 2 := rfl
            have zI : (⟨(two (t % 3600 / 60)).toArray⟩ : ByteArray).size = 2 := rfl
            have zS : (⟨(two (t % 60)).toArray⟩ : ByteArray).size = 2 := rfl
            generalize (⟨([50, 48] ++ two k).toArray⟩ : ByteArray) = bY at *
            generalize (⟨(two m).toArray⟩ : ByteArray) = bM at *
            generalize (⟨(two (s + 1)).toArray⟩ : ByteArray) = bD at *
            generalize (⟨(two (t % 86400 / 3600)).toArray⟩ : ByteArray) = bH at *
            generalize (⟨(two (t % 3600 / 60)).toArray⟩ : ByteArray) = bI at *
            generalize (⟨(two (t % 60)).toArray⟩ : ByteArray) = bS at *
            rw [show ((t % 86400 / 3600 : Nat) : Int) = (t : Int) % 86400 / 3600 by omega] at CH
            rw [show ((t % 3600 / 60 : Nat) : Int) = (t : Int) % 86400 / 60 % 60 by omega] at CI
            rw [show ((t % 60 : Nat) : Int) = (t : Int) % 60 by omega] at CS
            rw [show ((s + 1 : Nat) : Int) = (s : Int) + 1 by omega] at CD
            rw [HY.out] at CY
            clear q1 q2 q3
            go_wp2_with fail
            refine (A _).mono ?_
            rintro e w3 ⟨rfl, hb⟩
            have HB : Hid (Below w'.heap.size w' w3) := HBx.out.trans (hb.mono HBx.out.size)
            clear hb A
            go_wp2_with fail
            refine (CY _).mono ?_
            rintro e w4 ⟨rfl, hb⟩
            replace HB : Hid (Below w'.heap.size w' w4) := HB.out.trans (hb.mono HB.out.size)
            clear hb CY
            go_wp2_with fail
            refine (CM _).mono ?_
            rintro e w5 ⟨rfl, hb⟩
            replace HB : Hid (Below w'.heap.size w' w5) := HB.out.trans (hb.mono HB.out.size)
            clear hb CM
            go_wp2_with fail
            refine (CD _).mono ?_
            rintro e w6 ⟨rfl, hb⟩
            replace HB : Hid (Below w'.heap.size w' w6) := HB.out.trans (hb.mono HB.out.size)
            clear hb CD
            go_wp2_with fail
            refine (CH _).mono ?_
            rintro e w7 ⟨rfl, hb⟩
            replace HB : Hid (Below w'.heap.size w' w7) := HB.out.trans (hb.mono HB.out.size)
            clear hb CH
            go_wp2_with fail
            refine (CI _).mono ?_
            rintro e w8 ⟨rfl, hb⟩
            replace HB : Hid (Below w'.heap.size w' w8) := HB.out.trans (hb.mono HB.out.size)
            clear hb CI
            go_wp2_with fail
            refine (CS _).mono ?_
            rintro e w9 ⟨rfl, hb⟩
            replace HB : Hid (Below w'.heap.size w' w9) := HB.out.trans (hb.mono HB.out.size)
            clear hb CS
            go_wp2_with fail
            go_ret
            exact ⟨congrArg (fun x => Ending.returned (Value.string x)) HE.out, HB.out⟩
      · go_wp2_with fail
        go_round
        case rel =>
          have h1 := HY.out; have h2 := HR.out; have h3 := HYs.out
          refine ⟨r - 366, k + 1, ?_, ?_, by omega⟩
          · go_num
          · rw [← h1]; go_num
        case measure => simp [intOf]; omega

theorem cTextS (t : Int) (w : World) :
    Calls Tryd.prog 14 #[.int .i64 t] w fun e w' => e = .returned (.string ⟨(textOf t).toArray⟩) ∧ Below w.heap.size w w' := by
  by_cases h : 0 ≤ t ∧ t ≤ 3155759999
  · obtain ⟨n, rfl⟩ : ∃ n : Nat, t = n := ⟨t.toNat, by omega⟩
    exact cTextS_in n w (by omega)
  · rw [textOf_out h]
    have C := fun w => cTimeS t w
    rw [decide_eq_false h] at C
    go_enter Tryd.func14, Tryd.ntmps14
    go_wp2_with fail
    refine (C _).mono ?_
    rintro e w' ⟨rfl, rfl⟩
    go_wp2_with fail
    go_ret
    exact ⟨rfl, Below.refl _ _⟩

theorem cTextI (t : Int) (w : World) (hL : Laid w) :
    Calls Tryd.prog 9 #[.int .i64 t] w fun e w' => e = .returned (.string ⟨(textOf t).toArray⟩) ∧ Below w.heap.size w w' := by
  by_cases h : 0 ≤ t ∧ t ≤ 3155759999
  · obtain ⟨n, rfl⟩ : ∃ n : Nat, t = n := ⟨t.toNat, by omega⟩
    exact cTextI_in n w (by omega) hL
  · rw [textOf_out h]
    have C := fun w => cTimeI t w
    rw [decide_eq_false h] at C
    go_enter Tryd.func9, Tryd.ntmps9
    go_wp2_with fail
    refine (C _).mono ?_
    rintro e w' ⟨rfl, rfl⟩
    go_wp2_with fail
    go_ret
    exact ⟨rfl, Below.refl _ _⟩

end Go.Proofs.YtbphbjkmgmgpkaaDoor
