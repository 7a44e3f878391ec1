/- Contract of the specification's TimeText: the same text. Contract of the specification's l14Add. Contracts of the specification's l10Branch and Branch. -/
import Derived.Test.YtknpgdglabibiaaGreatDoorM19
import Derived.Test.YtknpgdglabibiaaGreatDoorM11
import Derived.Test.YtknpgdglabibiaaGreatDoorM13
import Derived.Test.YtknpgdglabibiaaGreatDoorM7
namespace Go.Proofs.YtknpgdglabibiaaGreatDoor
open Go.RowKit
set_option linter.unusedVariables false
set_option linter.unusedSimpArgs false

set_option maxHeartbeats 8000000 in
set_option maxRecDepth 4000 in
theorem cTextS_in (t : Nat) (w : World) (ht : t ≤ 3155759999) :
    Calls Tryz.prog 83 #[.int .i64 t] w fun e w' => e = .returned (.string ⟨(textOf t).toArray⟩) ∧ Below w.heap.size w w' := by
  have C0 := fun w => cTimeS t w
  rw [decide_eq_true (show (0 : Int) ≤ t ∧ (t : Int) ≤ 3155759999 by omega)] at C0
  have HT : Hid (t ≤ 3155759999) := ht
  obtain ⟨O, hO⟩ : ∃ O : ByteArray, (⟨(textOf t).toArray⟩ : ByteArray) = O := ⟨_, rfl⟩
  have HO : Hid ((⟨(textOf t).toArray⟩ : ByteArray) = O) := hO
  rw [hO]
  obtain ⟨d, hd⟩ : ∃ d : Nat, t / 86400 = d := ⟨_, rfl⟩
  have HDd : Hid (t / 86400 = d) := hd
  have hdi : (t : Int) / 86400 = (d : Int) := by omega
  have hd2 : d < 36525 := by omega
  obtain ⟨lf, hlf⟩ : ∃ lf : Nat, t % 86400 = lf := ⟨_, rfl⟩
  have HLf : Hid (t % 86400 = lf) := hlf
  have hlfi : (t : Int) % 86400 = (lf : Int) := by omega
  have hlf2 : lf < 86400 := by omega
  clear hO ht hd hlf
  go_enter Tryz.func83, Tryz.ntmps83
  go_wp2_with fail
  refine (C0 _).mono ?_
  rintro e w' ⟨rfl, rfl⟩
  clear C0
  go_wp2_with fail
  clear hdi hlfi
  go_loop [3, 5] (fun day year => ∃ r k : Nat, day = .int .i64 (r : Int) ∧ year = .int .i64 ((2000 + k : Nat) : Int) ∧ r + yb k = d) (fun day _ => (intOf day).toNat)
  case atStart => exact ⟨d, 0, rfl, rfl, by simp [yb]⟩
  case round =>
    obtain ⟨r, k, rfl, rfl, hr⟩ := hrel
    have hk : k < 100 := yb_lt_inv (by omega)
    have hr2 : r ≤ 36525 := by omega
    have HR : Hid (r + yb k = d) := hr
    have e4 : ((((2000 + k : Nat) : Int) % 4) == 0) = (lp k == 1) := by
      unfold lp
      split
      · simp; omega
      · simp; omega
    have e5 : ((((2000 + k : Nat) : Int).tmod 4) == 0) = (lp k == 1) := by
      rw [Int.tmod_eq_emod_of_nonneg (by omega)]
      exact e4
    have hys := yb_succ k
    obtain ⟨l, hl⟩ : ∃ l : Nat, lp k = l := ⟨_, rfl⟩
    have hl01 : l = 0 ∨ l = 1 := by rw [← hl]; unfold lp; split <;> simp
    have HL : Hid (lp k = l) := hl
    rw [hl] at e4 e5 hys
    have HYs : Hid (yb (k + 1) = yb k + (365 + l)) := hys
    obtain ⟨y, hy⟩ : ∃ y : Int, ((2000 + k : Nat) : Int) = y := ⟨_, rfl⟩
    have HY : Hid (((2000 + k : Nat) : Int) = y) := hy
    have hy1 : 2000 ≤ y := by omega
    have hy2 : y ≤ 2099 := by omega
    rw [hy] at e4 e5 ⊢
    clear hy hr hl hys
    rcases hl01 with rfl | rfl
    · have e6 : (y % 4 == 0) = false := e4
      have e7 : (y.tmod 4 == 0) = false := e5
      clear e4 e5
      by_cases hlt : r < 365
      · go_wp2_with fail
        go_loopw [3, 7] (fun day month wx => ∃ s m : Nat, day = .int .i64 (s : Int) ∧ month = .int .i64 (m : Int) ∧ 1 ≤ m ∧ m ≤ 12 ∧ s + mb (lp k) m = r ∧ Below w'.heap.size w' wx) (fun day _ _ => (intOf day).toNat)
        case atStart => exact ⟨r, 1, rfl, rfl, by omega, by omega, rfl, Below.refl _ _⟩
        case round =>
          clear e6 e7
          obtain ⟨s, m, rfl, rfl, hm1, hm2, hs, hB⟩ := hrel
          have A := fun wx => cDaysS_in k m wx hk hm1 hm2
          obtain ⟨D, hD⟩ : ∃ D : Nat, dm (lp k) m = D := ⟨_, rfl⟩
          have hD1 : 28 ≤ D := by rw [← hD]; exact (dm_pos _ _ hm1 hm2).1
          have hD2 : D ≤ 32 := by
            have := (dm_pos (lp k) m hm1 hm2).2
            have : lp k ≤ 1 := by unfold lp; split <;> omega
            omega
          have HD : Hid (dm (lp k) m = D) := hD
          have HS : Hid (s + mb (lp k) m = r) := hs
          have hs2 : s ≤ 366 := by omega
          have HBx : Hid (Below w'.heap.size w' wr) := hB
          rw [hD, HY.out] at A
          clear hD hs hB
          by_cases hlt2 : D ≤ s
          · go_wp2_with fail
            refine (A _).mono ?_
            rintro e w3 ⟨rfl, hb3⟩
            have hB3 : Below w'.heap.size w' w3 := HBx.out.trans (hb3.mono HBx.out.size)
            have HB3 : Hid (Below w'.heap.size w' w3) := hB3
            clear hb3 hB3
            go_wp2_with fail
            refine (A _).mono ?_
            rintro e w4 ⟨rfl, hb4⟩
            have hB4 : Below w'.heap.size w' w4 := HB3.out.trans (hb4.mono HB3.out.size)
            clear hb4 A
            go_wp2_with fail
            go_roundw
            case rel =>
              have h1 := HD.out; have h2 := HS.out; have h3 := HL.out
              have h4 := month_lt hm1 hm2 h2 (by omega) (by omega)
              refine ⟨s - D, m + 1, ?_, ?_, by omega, by omega, ?_, hB4⟩
              · go_num
              · go_num
              · rw [mb_succ _ _ hm1 hm2, h1]; omega
            case measure => simp [intOf]; omega
          · have hdt : IsDate (t / 86400) k m (s + 1) := by
              have h1 := HD.out; have h2 := HS.out; have h3 := HL.out; have h5 := HR.out; have h6 := HDd.out
              exact ⟨hk, hm1, hm2, by omega, by omega, by omega⟩
            obtain ⟨q1, q2, q3⟩ := date_bounds hdt
            have E := HO.out
            rw [textOf_eq HT.out hdt, ← cat_txt] at E
            have HE : Hid (_ = O) := E
            clear E hdt HO
            have CY := fun w => cPadS (2000 + k) 4 w (by omega) (by omega)
            rw [padL_four q1] at CY
            have CM := fun w => cPadS m 2 w (by omega) (by omega)
            rw [padL_two q2] at CM
            have CD := fun w => cPadS (s + 1) 2 w (by omega) (by omega)
            rw [padL_two q3] at CD
            have CH := fun w => cPadS (t % 86400 / 3600) 2 w (by omega) (by omega)
            rw [padL_two (by omega)] at CH
            have CI := fun w => cPadS (t % 3600 / 60) 2 w (by omega) (by omega)
            rw [padL_two (by omega)] at CI
            have CS := fun w => cPadS (t % 60) 2 w (by omega) (by omega)
            rw [padL_two (by omega)] at CS
            have zY : (⟨([50, 48] ++ two k).toArray⟩ : ByteArray).size = 4 := rfl
            have zM : (⟨(two m).toArray⟩ : ByteArray).size = 2 := rfl
            have zD : (⟨(two (s + 1)).toArray⟩ : ByteArray).size = 2 := rfl
            have zH : (⟨(two (t % 86400 / 3600)).toArray⟩ : ByteArray).size = 2 := rfl
            have zI : (⟨(two (t % 3600 / 60)).toArray⟩ : ByteArray).size = 2 := rfl
            have zS : (⟨(two (t % 60)).toArray⟩ : ByteArray).size = 2 := rfl
            generalize (⟨([50, 48] ++ two k).toArray⟩ : ByteArray) = bY at *
            generalize (⟨(two m).toArray⟩ : ByteArray) = bM at *
            generalize (⟨(two (s + 1)).toArray⟩ : ByteArray) = bD at *
            generalize (⟨(two (t % 86400 / 3600)).toArray⟩ : ByteArray) = bH at *
            generalize (⟨(two (t % 3600 / 60)).toArray⟩ : ByteArray) = bI at *
            generalize (⟨(two (t % 60)).toArray⟩ : ByteArray) = bS at *
            rw [show ((t % 86400 / 3600 : Nat) : Int) = (t : Int) % 86400 / 3600 by omega] at CH
            rw [show ((t % 3600 / 60 : Nat) : Int) = (t : Int) % 86400 / 60 % 60 by omega] at CI
            rw [show ((t % 60 : Nat) : Int) = (t : Int) % 60 by omega] at CS
            rw [show ((s + 1 : Nat) : Int) = (s : Int) + 1 by omega] at CD
            rw [HY.out] at CY
            clear q1 q2 q3
            go_wp2_with fail
            refine (A _).mono ?_
            rintro e w3 ⟨rfl, hb⟩
            have HB : Hid (Below w'.heap.size w' w3) := HBx.out.trans (hb.mono HBx.out.size)
            clear hb A
            go_wp2_with fail
            refine (CY _).mono ?_
            rintro e w4 ⟨rfl, hb⟩
            replace HB : Hid (Below w'.heap.size w' w4) := HB.out.trans (hb.mono HB.out.size)
            clear hb CY
            go_wp2_with fail
            refine (CM _).mono ?_
            rintro e w5 ⟨rfl, hb⟩
            replace HB : Hid (Below w'.heap.size w' w5) := HB.out.trans (hb.mono HB.out.size)
            clear hb CM
            go_wp2_with fail
            refine (CD _).mono ?_
            rintro e w6 ⟨rfl, hb⟩
            replace HB : Hid (Below w'.heap.size w' w6) := HB.out.trans (hb.mono HB.out.size)
            clear hb CD
            go_wp2_with fail
            refine (CH _).mono ?_
            rintro e w7 ⟨rfl, hb⟩
            replace HB : Hid (Below w'.heap.size w' w7) := HB.out.trans (hb.mono HB.out.size)
            clear hb CH
            go_wp2_with fail
            refine (CI _).mono ?_
            rintro e w8 ⟨rfl, hb⟩
            replace HB : Hid (Below w'.heap.size w' w8) := HB.out.trans (hb.mono HB.out.size)
            clear hb CI
            go_wp2_with fail
            refine (CS _).mono ?_
            rintro e w9 ⟨rfl, hb⟩
            replace HB : Hid (Below w'.heap.size w' w9) := HB.out.trans (hb.mono HB.out.size)
            clear hb CS
            go_wp2_with fail
            go_ret
            exact ⟨congrArg (fun x => Ending.returned (Value.string x)) HE.out, HB.out⟩
      · go_wp2_with fail
        go_round
        case rel =>
          have h1 := HY.out; have h2 := HR.out; have h3 := HYs.out
          refine ⟨r - 365, k + 1, ?_, ?_, by omega⟩
          · go_num
          · rw [← h1]; go_num
        case measure => simp [intOf]; omega
    · have e6 : (y % 4 == 0) = true := e4
      have e7 : (y.tmod 4 == 0) = true := e5
      clear e4 e5
      by_cases hlt : r < 366
      · go_wp2_with fail
        go_loopw [3, 7] (fun day month wx => ∃ s m : Nat, day = .int .i64 (s : Int) ∧ month = .int .i64 (m : Int) ∧ 1 ≤ m ∧ m ≤ 12 ∧ s + mb (lp k) m = r ∧ Below w'.heap.size w' wx) (fun day _ _ => (intOf day).toNat)
        case atStart => exact ⟨r, 1, rfl, rfl, by omega, by omega, rfl, Below.refl _ _⟩
        case round =>
          clear e6 e7
          obtain ⟨s, m, rfl, rfl, hm1, hm2, hs, hB⟩ := hrel
          have A := fun wx => cDaysS_in k m wx hk hm1 hm2
          obtain ⟨D, hD⟩ : ∃ D : Nat, dm (lp k) m = D := ⟨_, rfl⟩
          have hD1 : 28 ≤ D := by rw [← hD]; exact (dm_pos _ _ hm1 hm2).1
          have hD2 : D ≤ 32 := by
            have := (dm_pos (lp k) m hm1 hm2).2
            have : lp k ≤ 1 := by unfold lp; split <;> omega
            omega
          have HD : Hid (dm (lp k) m = D) := hD
          have HS : Hid (s + mb (lp k) m = r) := hs
          have hs2 : s ≤ 366 := by omega
          have HBx : Hid (Below w'.heap.size w' wr) := hB
          rw [hD, HY.out] at A
          clear hD hs hB
          by_cases hlt2 : D ≤ s
          · go_wp2_with fail
            refine (A _).mono ?_
            rintro e w3 ⟨rfl, hb3⟩
            have hB3 : Below w'.heap.size w' w3 := HBx.out.trans (hb3.mono HBx.out.size)
            have HB3 : Hid (Below w'.heap.size w' w3) := hB3
            clear hb3 hB3
            go_wp2_with fail
            refine (A _).mono ?_
            rintro e w4 ⟨rfl, hb4⟩
            have hB4 : Below w'.heap.size w' w4 := HB3.out.trans (hb4.mono HB3.out.size)
            clear hb4 A
            go_wp2_with fail
            go_roundw
            case rel =>
              have h1 := HD.out; have h2 := HS.out; have h3 := HL.out
              have h4 := month_lt hm1 hm2 h2 (by omega) (by omega)
              refine ⟨s - D, m + 1, ?_, ?_, by omega, by omega, ?_, hB4⟩
              · go_num
              · go_num
              · rw [mb_succ _ _ hm1 hm2, h1]; omega
            case measure => simp [intOf]; omega
          · have hdt : IsDate (t / 86400) k m (s + 1) := by
              have h1 := HD.out; have h2 := HS.out; have h3 := HL.out; have h5 := HR.out; have h6 := HDd.out
              exact ⟨hk, hm1, hm2, by omega, by omega, by omega⟩
            obtain ⟨q1, q2, q3⟩ := date_bounds hdt
            have E := HO.out
            rw [textOf_eq HT.out hdt, ← cat_txt] at E
            have HE : Hid (_ = O) := E
            clear E hdt HO
            have CY := fun w => cPadS (2000 + k) 4 w (by omega) (by omega)
            rw [padL_four q1] at CY
            have CM := fun w => cPadS m 2 w (by omega) (by omega)
            rw [padL_two q2] at CM
            have CD := fun w => cPadS (s + 1) 2 w (by omega) (by omega)
            rw [padL_two q3] at CD
            have CH := fun w => cPadS (t % 86400 / 3600) 2 w (by omega) (by omega)
            rw [padL_two (by omega)] at CH
            have CI := fun w => cPadS (t % 3600 / 60) 2 w (by omega) (by omega)
            rw [padL_two (by omega)] at CI
            have CS := fun w => cPadS (t % 60) 2 w (by omega) (by omega)
            rw [padL_two (by omega)] at CS
            have zY : (⟨([50, 48] ++ two k).toArray⟩ : ByteArray).size = 4 := rfl
            have zM : (⟨(two m).toArray⟩ : ByteArray).size = 2 := rfl
            have zD : (⟨(two (s + 1)).toArray⟩ : ByteArray).size = 2 := rfl
            have zH : (⟨(two (t % 86400 / 3600)).toArray⟩ : ByteArray).size = 2 := rfl
            have zI : (⟨(two (t % 3600 / 60)).toArray⟩ : ByteArray).size = 2 := rfl
            have zS : (⟨(two (t % 60)).toArray⟩ : ByteArray).size = 2 := rfl
            generalize (⟨([50, 48] ++ two k).toArray⟩ : ByteArray) = bY at *
            generalize (⟨(two m).toArray⟩ : ByteArray) = bM at *
            generalize (⟨(two (s + 1)).toArray⟩ : ByteArray) = bD at *
            generalize (⟨(two (t % 86400 / 3600)).toArray⟩ : ByteArray) = bH at *
            generalize (⟨(two (t % 3600 / 60)).toArray⟩ : ByteArray) = bI at *
            generalize (⟨(two (t % 60)).toArray⟩ : ByteArray) = bS at *
            rw [show ((t % 86400 / 3600 : Nat) : Int) = (t : Int) % 86400 / 3600 by omega] at CH
            rw [show ((t % 3600 / 60 : Nat) : Int) = (t : Int) % 86400 / 60 % 60 by omega] at CI
            rw [show ((t % 60 : Nat) : Int) = (t : Int) % 60 by omega] at CS
            rw [show ((s + 1 : Nat) : Int) = (s : Int) + 1 by omega] at CD
            rw [HY.out] at CY
            clear q1 q2 q3
            go_wp2_with fail
            refine (A _).mono ?_
            rintro e w3 ⟨rfl, hb⟩
            have HB : Hid (Below w'.heap.size w' w3) := HBx.out.trans (hb.mono HBx.out.size)
            clear hb A
            go_wp2_with fail
            refine (CY _).mono ?_
            rintro e w4 ⟨rfl, hb⟩
            replace HB : Hid (Below w'.heap.size w' w4) := HB.out.trans (hb.mono HB.out.size)
            clear hb CY
            go_wp2_with fail
            refine (CM _).mono ?_
            rintro e w5 ⟨rfl, hb⟩
            replace HB : Hid (Below w'.heap.size w' w5) := HB.out.trans (hb.mono HB.out.size)
            clear hb CM
            go_wp2_with fail
            refine (CD _).mono ?_
            rintro e w6 ⟨rfl, hb⟩
            replace HB : Hid (Below w'.heap.size w' w6) := HB.out.trans (hb.mono HB.out.size)
            clear hb CD
            go_wp2_with fail
            refine (CH _).mono ?_
            rintro e w7 ⟨rfl, hb⟩
            replace HB : Hid (Below w'.heap.size w' w7) := HB.out.trans (hb.mono HB.out.size)
            clear hb CH
            go_wp2_with fail
            refine (CI _).mono ?_
            rintro e w8 ⟨rfl, hb⟩
            replace HB : Hid (Below w'.heap.size w' w8) := HB.out.trans (hb.mono HB.out.size)
            clear hb CI
            go_wp2_with fail
            refine (CS _).mono ?_
            rintro e w9 ⟨rfl, hb⟩
            replace HB : Hid (Below w'.heap.size w' w9) := HB.out.trans (hb.mono HB.out.size)
            clear hb CS
            go_wp2_with fail
            go_ret
            exact ⟨congrArg (fun x => Ending.returned (Value.string x)) HE.out, HB.out⟩
      · go_wp2_with fail
        go_round
        case rel =>
          have h1 := HY.out; have h2 := HR.out; have h3 := HYs.out
          refine ⟨r - 366, k + 1, ?_, ?_, by omega⟩
          · go_num
          · rw [← h1]; go_num
        case measure => simp [intOf]; omega

theorem t_cTextS (t : Int) (w : World) :
    Calls Tryz.prog 83 #[.int .i64 t] w fun e w' => e = .returned (.string ⟨(textOf t).toArray⟩) ∧ Below w.heap.size w w' := by
  by_cases h : 0 ≤ t ∧ t ≤ 3155759999
  · obtain ⟨n, rfl⟩ : ∃ n : Nat, t = n := ⟨t.toNat, by omega⟩
    exact cTextS_in n w (by omega)
  · rw [textOf_out h]
    have C := fun w => cTimeS t w
    rw [decide_eq_false h] at C
    go_enter Tryz.func83, Tryz.ntmps83
    go_wp2_with fail
    refine (C _).mono ?_
    rintro e w' ⟨rfl, rfl⟩
    go_wp2_with fail
    go_ret
    exact ⟨rfl, Below.refl _ _⟩

theorem cTextI (t : Int) (w : World) (hL : Laid w) :
    Calls Tryz.prog 106 #[.int .i64 t] w fun e w' => e = .returned (.string ⟨(textOf t).toArray⟩) ∧ Below w.heap.size w w' := by
  by_cases h : 0 ≤ t ∧ t ≤ 3155759999
  · obtain ⟨n, rfl⟩ : ∃ n : Nat, t = n := ⟨t.toNat, by omega⟩
    exact cTextI_in n w (by omega) hL
  · rw [textOf_out h]
    have C := fun w => cTimeI t w
    rw [decide_eq_false h] at C
    go_enter Tryz.func106, Tryz.ntmps106
    go_wp2_with fail
    refine (C _).mono ?_
    rintro e w' ⟨rfl, rfl⟩
    go_wp2_with fail
    go_ret
    exact ⟨rfl, Below.refl _ _⟩

end Go.Proofs.YtknpgdglabibiaaGreatDoor

namespace Go.Proofs.YtknpgdglabibiaaGreatDoor
open Go.RowKit
set_option linter.unusedVariables false
set_option linter.unusedSimpArgs false

theorem own_nil (w : World) (B : Nat) (a : Option Addr) : OwnAts w B a [] := fun h => absurd h (Nat.lt_irrefl 0)

end Go.Proofs.YtknpgdglabibiaaGreatDoor

namespace Go.Proofs.YtknpgdglabibiaaGreatDoor
open Go.RowKit
set_option linter.unusedVariables false
set_option linter.unusedSimpArgs false

/-- A node in a box, its attrs made anew. -/
structure Bx (wr W : World) (t : Tk) (nA : Nat) (a1 : Option Addr) (c1 : Nat) : Prop where
  bel : Below wr.heap.size wr W
  box : W.heap[wr.heap.size]? = some (.cells #[.int .i64 t.kind, .string t.name, .slice a1 nA c1, .string t.text] 42 (0, 0))
  own : OwnAts W (wr.heap.size + 1) a1 t.attrs

theorem Bx.made {wr w2 : World} {t : Tk} {nA c1 ca : Nat} {aa a1 : Option Addr} (hb : Below (wr.heap.size + 1) (wr.alloc (.cells #[.int .i64 t.kind, .string t.name, .slice aa nA ca, .string t.text] 42)) w2) (hA : OwnAts w2 (wr.heap.size + 1) a1 t.attrs) :
    Bx wr (w2.setCell ⟨wr.heap.size, 2, none⟩ (.slice a1 nA c1)) t nA a1 c1 := by
  have h0 := (Below.refl wr.heap.size wr).alloc (Nat.le_refl _) (.cells #[.int .i64 t.kind, .string t.name, .slice aa nA ca, .string t.text] 42)
  have m0 := heap_alloc_new wr (.cells #[.int .i64 t.kind, .string t.name, .slice aa nA ca, .string t.text] 42)
  refine ⟨(h0.trans (hb.mono (Nat.le_succ _))).setCell (p := ⟨wr.heap.size, 2, none⟩) (Nat.le_refl _) _, ?_, own_setG hA (p := ⟨wr.heap.size, 2, none⟩) (Nat.lt_succ_self _) _⟩
  exact box_set ((hb.block _ (Nat.lt_succ_self _)).trans m0) 2 (.slice a1 nA c1)

theorem Bx.kind {wr W : World} {t : Tk} {nA c1 : Nat} {a1 : Option Addr} (h : Bx wr W t nA a1 c1) (k : Int) : Bx wr (W.setCell ⟨wr.heap.size, 0, none⟩ (.int .i64 k)) (shK k t) nA a1 c1 :=
  ⟨h.bel.setCell (p := ⟨wr.heap.size, 0, none⟩) (Nat.le_refl _) _, box_set h.box 0 (.int .i64 k), own_setG h.own (p := ⟨wr.heap.size, 0, none⟩) (Nat.lt_succ_self _) _⟩

theorem wpL_bx (w wr W0 : World) {ops : Array Oper} {rest : List Oper} {o : Oper} {a : Act} {Q : Exit → Act → World → Prop} (hgd : o.guard = none) (s x : Operand)
    (ho : o.op = .call { callee := .builtin .append, args := #[s, x], argTypes := #[29, 29] }) (v : Value) (L : List Tk) (hs : a.eval s = v) (hrow : RowOf w wr v L)
    (t : Tk) (a1 : Option Addr) (c1 nA : Nat) (hx : a.eval x = .slice (some ⟨W0.heap.size, 0, none⟩) 1 1) (hnA : t.attrs.length = nA) (hbx : Bx wr W0 t nA a1 c1) (hn : L.length ≤ 1048576)
    (h : ∀ v' w', RowOf w w' v' (L ++ [t]) → wpList Tryz.prog ops Q rest (a.put o.dst v') w') : wpList Tryz.prog ops Q (o :: rest) a (W0.alloc (.cells #[.int .i64 t.kind, .string t.name, .slice a1 nA c1, .string t.text] 42)) :=
  wpL_row w wr _ hgd s x ho v L hs hrow (hbx.bel.alloc hbx.bel.size _) t a1 c1 W0.heap.size nA hx hnA (heap_alloc_new _ _) (own_lift (hbx.own.below ((Below.refl _ _).alloc (Nat.le_refl _) _)) (Nat.le_succ _)) hn h

theorem seg_of {ts : List Tk} {i : Nat} (h : i < ts.length) : ts[i]? = some ts[i] := List.getElem?_eq_getElem h

/-- A tree that is answered, in memory of its own, and whether it is what was asked for. -/
def TreeAns (w : World) (R : List Tk) (b : Bool) (e : Ending) (w' : World) : Prop := ∃ v, e = .returned (.tuple #[v, .bool b]) ∧ RowOf w w' v R

theorem TreeAns.none {w wr : World} (hb : Below w.heap.size w wr) : TreeAns w [] false (.returned (.tuple #[.slice (some ⟨wr.heap.size, 0, none⟩) 0 0, .bool false])) (wr.alloc (.cells #[] 42)) :=
  ⟨_, rfl, RowOf.start (hb.alloc hb.size _) hb.size (heap_alloc_new _ _)⟩

noncomputable def branchI (ts : List Tk) (x : Int) : List Tk := if elemB ts x then branchL ts x.toNat else []

theorem RowOf.later {w w1 w' : World} {v : Value} {L : List Tk} (hb : Below w.heap.size w w1) (h : RowOf w1 w' v L) : RowOf w w' v L := by
  obtain ⟨es, a, c, e1, e2, e3⟩ := h.row
  exact ⟨⟨es, a, c, e1, e2.mono hb.size, e3⟩, bb hb h.bel⟩

end Go.Proofs.YtknpgdglabibiaaGreatDoor
