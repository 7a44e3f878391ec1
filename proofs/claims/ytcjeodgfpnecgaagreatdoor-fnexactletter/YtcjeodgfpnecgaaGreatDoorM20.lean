/- Contract of the program's numeral with noughts ahead, over the library's FormatInt and Repeat. Contracts of TimeText, of the program and of the specification: one text. Contract of the specification's TimeText: the same text. -/
import Derived.Test.YtcjeodgfpnecgaaGreatDoorM19
import Derived.Test.YtcjeodgfpnecgaaGreatDoorM18
import Derived.Lib.AppendIntMem
namespace Go.Proofs.YtcjeodgfpnecgaaGreatDoor
open Go.RowKit
set_option linter.unusedVariables false
set_option linter.unusedSimpArgs false

def powName : String := "internal/strconv.uint64pow10"

/-- The listed variables hold what the text lays in them: the months, and the library's table of tens. -/
def Laid (w : World) : Prop := Mon w ∧ Lib.TabIs Tryz.prog w powName .u64 Lib.pow10Tab

theorem powGlobal : ∃ g, Tryz.prog.globalNamed powName = some g := ⟨2, by kernel_rfl⟩

theorem Laid.below {w w' : World} (h : Laid w) (hb : Below w.heap.size w w') : Laid w' := by
  refine ⟨h.1.below hb, ?_⟩
  obtain ⟨g, hg⟩ := powGlobal
  have h2 := h.2
  unfold Lib.TabIs World.var? at h2 ⊢
  rw [hg] at h2 ⊢
  simp only [Option.bind_some] at h2 ⊢
  have hlt : g < w.heap.size := by
    rcases Nat.lt_or_ge g w.heap.size with h' | h'
    · exact h'
    · rw [Array.getElem?_eq_none h'] at h2
      cases h2
  rw [hb.block g hlt]
  exact h2

theorem pad_str (l : List UInt8) (c : Nat) : (⟨(Lib.repeatL [48] c).toArray⟩ : ByteArray) ++ ⟨l.toArray⟩ = ⟨(List.replicate c 48 ++ l).toArray⟩ := by
  have e : Lib.repeatL [48] c = List.replicate c 48 := by
    induction c with
    | zero => rfl
    | succ c ih => rw [Lib.repeatL, ih, List.replicate_succ]; rfl
  rw [e]
  apply ByteArray.ext
  apply Array.toList_inj.1
  simp [ByteArray.data_append]

set_option maxHeartbeats 2000000 in
theorem cPadI (n wd : Nat) (w : World) (hn : n < 9223372036854775808) (hw : wd ≤ 100) (hL : Laid w) :
    Calls Tryz.prog 114 #[.int .i64 n, .int .i64 wd] w fun e w' => e = .returned (.string ⟨(padL n wd).toArray⟩) ∧ Below w.heap.size w w' := by
  have hl := dec_le n hn
  have C := Tryz.strconv_FormatInt_10 n (by omega) (by omega) w hL.2
  rw [show Lib.itoa (n : Int) = Lib.decDigits n by unfold Lib.itoa; rw [if_neg (by omega)]; simp] at C
  unfold padL
  obtain ⟨l, hle⟩ : ∃ l, Lib.decDigits n = l := ⟨_, rfl⟩
  rw [hle] at C hl ⊢
  clear hle hn
  obtain ⟨b, hbe⟩ : ∃ b : ByteArray, (⟨l.toArray⟩ : ByteArray) = b := ⟨_, rfl⟩
  have hs : b.size = l.length := by rw [← hbe, t_size_mk]
  have hcat := pad_str l (wd - l.length)
  obtain ⟨r, hr⟩ : ∃ r : ByteArray, (⟨(Lib.repeatL [48] (wd - l.length)).toArray⟩ : ByteArray) = r := ⟨_, rfl⟩
  obtain ⟨o, ho⟩ : ∃ o : ByteArray, (⟨(List.replicate (wd - l.length) 48 ++ l).toArray⟩ : ByteArray) = o := ⟨_, rfl⟩
  have hrs : r.size = wd - l.length := by rw [← hr, t_size_mk, Lib.repeatL_length]; simp
  have D := fun w => Tryz.strings_Repeat ⟨#[48]⟩ (wd - l.length) w (by omega) (by show 1 * _ ≤ _; omega)
  rw [show (⟨#[48]⟩ : ByteArray).data.toList = [48] from rfl, hr] at D
  rw [hbe, hr, ho] at hcat
  rw [hbe] at C
  rw [ho]
  obtain ⟨c, hc⟩ : ∃ c, wd - l.length = c := ⟨_, rfl⟩
  rw [hc] at D hrs
  have hbs : b.size ≤ 19 := by omega
  have hm : max 0 ((wd : Int) - (b.size : Int)) = (c : Int) := by omega
  have HS : Hid (b.size = l.length) := hs
  have HC : Hid (wd - l.length = c) := hc
  have hcs : c ≤ 100 := by omega
  have hwr : IntKind.i64.wrap ((wd : Int) - (b.size : Int)) = (wd : Int) - (b.size : Int) := IntWalk.i64_in _ (by omega)
  clear hbe hr ho hs hc hL
  go_enter Tryz.func114, Tryz.ntmps114
  go_wp2_with fail
  refine C.mono ?_
  rintro e w1 ⟨rfl, k, os, hw1⟩
  have hb1 : Below w.heap.size w w1 := by rw [hw1]; exact Lib.below_grow _ _ (Nat.le_refl _) _ _
  clear hw1
  go_wp2_with fail
  refine (D _).mono ?_
  rintro e w2 ⟨rfl, hb2⟩
  go_wp2_with fail
  go_ret
  exact ⟨rfl, hb1.trans (hb2.mono hb1.size)⟩

end Go.Proofs.YtcjeodgfpnecgaaGreatDoor

namespace Go.Proofs.YtcjeodgfpnecgaaGreatDoor
open Go.RowKit
set_option linter.unusedVariables false
set_option linter.unusedSimpArgs false

theorem date_ex : ∀ d, d < 36525 → ∃ k m dd, IsDate d k m dd
  | 0, _ => ⟨0, 1, 1, by decide, by decide, by decide, by decide, by decide, rfl⟩
  | d + 1, h => by
    obtain ⟨k, m, dd, a⟩ := date_ex d (by omega)
    have he := a.eq; have h1 := a.d1; have hm0 := a.m0; have hm1 := a.m1; have hk := a.k1; have h0 := a.d0
    by_cases c1 : dd < dm (lp k) m
    · exact ⟨k, m, dd + 1, hk, hm0, hm1, by omega, by omega, by omega⟩
    · have e := mb_succ (lp k) m hm0 hm1
      by_cases c2 : m < 12
      · exact ⟨k, m + 1, 1, hk, by omega, by omega, by omega, by have := (dm_pos (lp k) (m + 1) (by omega) (by omega)).1; omega, by omega⟩
      · have : m = 12 := by omega
        subst this
        have e2 : mb (lp k) (12 + 1) = 365 + lp k := mb_13 _
        have e3 := yb_succ k
        have hk1 : k + 1 < 100 := yb_lt_inv (by omega)
        refine ⟨k + 1, 1, 1, hk1, by omega, by omega, by omega, by simp [dm], ?_⟩
        show d + 1 + 1 = yb (k + 1) + 0 + 1
        omega

open Classical in
noncomputable def pickText (t : Nat) : List UInt8 := if h : ∃ l, IsText t l then h.choose else []

/-- The text of a time; empty of no time. -/
noncomputable def textOf (t : Int) : List UInt8 := if 0 ≤ t ∧ t ≤ 3155759999 then pickText t.toNat else []

theorem isText_ex {t : Nat} (h : t ≤ 3155759999) : ∃ l, IsText t l := by
  obtain ⟨k, m, dd, a⟩ := date_ex (t / 86400) (by omega)
  exact ⟨_, k, m, dd, a, rfl⟩

theorem textOf_is {t : Nat} (h : t ≤ 3155759999) : IsText t (textOf t) := by
  have hx := isText_ex h
  unfold textOf
  rw [if_pos (by omega), Int.toNat_natCast]
  unfold pickText
  rw [dif_pos hx]
  exact hx.choose_spec

theorem textOf_eq {t k m dd : Nat} (h : t ≤ 3155759999) (a : IsDate (t / 86400) k m dd) : textOf t = txt k m dd (t % 86400 / 3600) (t % 3600 / 60) (t % 60) :=
  isText_unique (textOf_is h) ⟨k, m, dd, a, rfl⟩

theorem textOf_out {t : Int} (h : ¬ (0 ≤ t ∧ t ≤ 3155759999)) : textOf t = [] := by
  unfold textOf
  rw [if_neg h]

theorem two_len (n : Nat) : (two n).length = 2 := rfl

theorem cTwo (n : Nat) (w : World) (hn : n < 100) (hL : Laid w) :
    Calls Tryz.prog 113 #[.int .i64 n] w fun e w' => e = .returned (.string ⟨(two n).toArray⟩) ∧ Below w.heap.size w w' := by
  have C := cPadI n 2 w (by omega) (by omega) hL
  rw [padL_two hn] at C
  obtain ⟨b, hb⟩ : ∃ b : ByteArray, (⟨(two n).toArray⟩ : ByteArray) = b := ⟨_, rfl⟩
  rw [hb] at C ⊢
  clear hb
  go_enter Tryz.func113, Tryz.ntmps113
  go_wp2_with fail
  refine C.mono ?_
  rintro e w1 ⟨rfl, hb1⟩
  go_wp2_with fail
  go_ret
  exact ⟨rfl, hb1⟩

theorem cat_txt (k m dd h mi s : Nat) : ((((((((((((⟨([50, 48] ++ two k).toArray⟩ : ByteArray) ++ ⟨#[45]⟩) ++ ⟨(two m).toArray⟩) ++ ⟨#[45]⟩) ++ ⟨(two dd).toArray⟩) ++ ⟨#[84]⟩) ++ ⟨(two h).toArray⟩) ++ ⟨#[58]⟩) ++ ⟨(two mi).toArray⟩) ++ ⟨#[58]⟩) ++ ⟨(two s).toArray⟩) ++ ⟨#[90]⟩ : ByteArray) = ⟨(txt k m dd h mi s).toArray⟩ := by
  apply ByteArray.ext
  apply Array.toList_inj.1
  simp [ByteArray.data_append, txt]

set_option maxHeartbeats 4000000 in
theorem cTextI_in (t : Nat) (w : World) (ht : t ≤ 3155759999) (hL : Laid w) :
    Calls Tryz.prog 101 #[.int .i64 t] w fun e w' => e = .returned (.string ⟨(textOf t).toArray⟩) ∧ Below w.heap.size w w' := by
  have HL : Hid (Laid w) := hL
  clear hL
  have C0 := fun w => cTimeI t w
  rw [decide_eq_true (show (0 : Int) ≤ t ∧ (t : Int) ≤ 3155759999 by omega)] at C0
  have C1 := fun w hM => cDateOf (t / 86400) w (by omega) hM
  rw [show ((t / 86400 : Nat) : Int) = (t : Int) / 86400 by omega] at C1
  have HT : Hid (t ≤ 3155759999) := ht
  obtain ⟨O, hO⟩ : ∃ O : ByteArray, (⟨(textOf t).toArray⟩ : ByteArray) = O := ⟨_, rfl⟩
  have HO : Hid ((⟨(textOf t).toArray⟩ : ByteArray) = O) := hO
  rw [hO]
  clear hO
  go_enter Tryz.func101, Tryz.ntmps101
  go_wp2_with fail
  refine (C0 _).mono ?_
  rintro e w' ⟨rfl, rfl⟩
  go_wp2_with fail
  refine (C1 _ HL.out.1).mono ?_
  rintro e w1 ⟨k, m, dd, rfl, hD, hb1⟩
  obtain ⟨q1, q2, q3⟩ := date_bounds hD
  have E := HO.out
  rw [textOf_eq HT.out hD, ← cat_txt] at E
  have HE : Hid (_ = O) := E
  clear E hD C0 C1 HO
  have CY := fun w hL => cPadI (2000 + k) 4 w (by omega) (by omega) hL
  rw [padL_four q1] at CY
  have CM := fun w hL => cTwo m w q2 hL
  have CD := fun w hL => cTwo dd w q3 hL
  have CH := fun w hL => cTwo (t % 86400 / 3600) w (by omega) hL
  have CI := fun w hL => cTwo (t % 3600 / 60) w (by omega) hL
  have CS := fun w hL => cTwo (t % 60) w (by omega) hL
  have zY : (⟨([50, 48] ++ two k).toArray⟩ : ByteArray).size = 4 := rfl
  have zM : (⟨(two m).toArray⟩ : ByteArray).size = 2 := rfl
  have zD : (⟨(two dd).toArray⟩ : ByteArray).size = 2 := rfl
  have zH : (⟨(two (t % 86400 / 3600)).toArray⟩ : ByteArray).size = 2 := rfl
  have zI : (⟨(two (t % 3600 / 60)).toArray⟩ : ByteArray).size = 2 := rfl
  have zS : (⟨(two (t % 60)).toArray⟩ : ByteArray).size = 2 := rfl
  generalize (⟨([50, 48] ++ two k).toArray⟩ : ByteArray) = bY at *
  generalize (⟨(two m).toArray⟩ : ByteArray) = bM at *
  generalize (⟨(two dd).toArray⟩ : ByteArray) = bD at *
  generalize (⟨(two (t % 86400 / 3600)).toArray⟩ : ByteArray) = bH at *
  generalize (⟨(two (t % 3600 / 60)).toArray⟩ : ByteArray) = bI at *
  generalize (⟨(two (t % 60)).toArray⟩ : ByteArray) = bS at *
  rw [show ((t % 86400 / 3600 : Nat) : Int) = (t : Int) % 86400 / 3600 by omega] at CH
  rw [show ((t % 3600 / 60 : Nat) : Int) = (t : Int) % 3600 / 60 by omega] at CI
  rw [show ((t % 60 : Nat) : Int) = (t : Int) % 60 by omega] at CS
  generalize ((2000 + k : Nat) : Int) = y at *
  clear q1 q2 q3 ht
  have HB : Hid (Below w'.heap.size w' w1) := hb1
  clear hb1
  go_wp2_with fail
  refine (CY _ (HL.out.below HB.out)).mono ?_
  rintro e w2 ⟨rfl, hb⟩
  replace HB : Hid (Below w'.heap.size w' w2) := HB.out.trans (hb.mono HB.out.size)
  clear hb CY
  go_wp2_with fail
  refine (CM _ (HL.out.below HB.out)).mono ?_
  rintro e w3 ⟨rfl, hb⟩
  replace HB : Hid (Below w'.heap.size w' w3) := HB.out.trans (hb.mono HB.out.size)
  clear hb CM
  go_wp2_with fail
  refine (CD _ (HL.out.below HB.out)).mono ?_
  rintro e w4 ⟨rfl, hb⟩
  replace HB : Hid (Below w'.heap.size w' w4) := HB.out.trans (hb.mono HB.out.size)
  clear hb CD
  go_wp2_with fail
  refine (CH _ (HL.out.below HB.out)).mono ?_
  rintro e w5 ⟨rfl, hb⟩
  replace HB : Hid (Below w'.heap.size w' w5) := HB.out.trans (hb.mono HB.out.size)
  clear hb CH
  go_wp2_with fail
  refine (CI _ (HL.out.below HB.out)).mono ?_
  rintro e w6 ⟨rfl, hb⟩
  replace HB : Hid (Below w'.heap.size w' w6) := HB.out.trans (hb.mono HB.out.size)
  clear hb CI
  go_wp2_with fail
  refine (CS _ (HL.out.below HB.out)).mono ?_
  rintro e w7 ⟨rfl, hb⟩
  replace HB : Hid (Below w'.heap.size w' w7) := HB.out.trans (hb.mono HB.out.size)
  clear hb CS
  go_wp2_with fail
  go_ret
  exact ⟨congrArg (fun x => Ending.returned (Value.string x)) HE.out, HB.out⟩

end Go.Proofs.YtcjeodgfpnecgaaGreatDoor

namespace Go.Proofs.YtcjeodgfpnecgaaGreatDoor
open Go.RowKit
set_option linter.unusedVariables false
set_option linter.unusedSimpArgs false

set_option maxHeartbeats 8000000 in
set_option maxRecDepth 4000 in
theorem cTextS_in (t : Nat) (w : World) (ht : t ≤ 3155759999) :
    Calls Tryz.prog 57 #[.int .i64 t] w fun e w' => e = .returned (.string ⟨(textOf t).toArray⟩) ∧ Below w.heap.size w w' := by
  have C0 := fun w => cTimeS t w
  rw [decide_eq_true (show (0 : Int) ≤ t ∧ (t : Int) ≤ 3155759999 by omega)] at C0
  have HT : Hid (t ≤ 3155759999) := ht
  obtain ⟨O, hO⟩ : ∃ O : ByteArray, (⟨(textOf t).toArray⟩ : ByteArray) = O := ⟨_, rfl⟩
  have HO : Hid ((⟨(textOf t).toArray⟩ : ByteArray) = O) := hO
  rw [hO]
  obtain ⟨d, hd⟩ : ∃ d : Nat, t / 86400 = d := ⟨_, rfl⟩
  have HDd : Hid (t / 86400 = d) := hd
  have hdi : (t : Int) / 86400 = (d : Int) := by omega
  have hd2 : d < 36525 := by omega
  obtain ⟨lf, hlf⟩ : ∃ lf : Nat, t % 86400 = lf := ⟨_, rfl⟩
  have HLf : Hid (t % 86400 = lf) := hlf
  have hlfi : (t : Int) % 86400 = (lf : Int) := by omega
  have hlf2 : lf < 86400 := by omega
  clear hO ht hd hlf
  go_enter Tryz.func57, Tryz.ntmps57
  go_wp2_with fail
  refine (C0 _).mono ?_
  rintro e w' ⟨rfl, rfl⟩
  clear C0
  go_wp2_with fail
  clear hdi hlfi
  go_loop [3, 5] (fun day year => ∃ r k : Nat, day = .int .i64 (r : Int) ∧ year = .int .i64 ((2000 + k : Nat) : Int) ∧ r + yb k = d) (fun day _ => (intOf day).toNat)
  case atStart => exact ⟨d, 0, rfl, rfl, by simp [yb]⟩
  case round =>
    obtain ⟨r, k, rfl, rfl, hr⟩ := hrel
    have hk : k < 100 := yb_lt_inv (by omega)
    have hr2 : r ≤ 36525 := by omega
    have HR : Hid (r + yb k = d) := hr
    have e4 : ((((2000 + k : Nat) : Int) % 4) == 0) = (lp k == 1) := by
      unfold lp
      split
      · simp; omega
      · simp; omega
    have e5 : ((((2000 + k : Nat) : Int).tmod 4) == 0) = (lp k == 1) := by
      rw [Int.tmod_eq_emod_of_nonneg (by omega)]
      exact e4
    have hys := yb_succ k
    obtain ⟨l, hl⟩ : ∃ l : Nat, lp k = l := ⟨_, rfl⟩
    have hl01 : l = 0 ∨ l = 1 := by rw [← hl]; unfold lp; split <;> simp
    have HL : Hid (lp k = l) := hl
    rw [hl] at e4 e5 hys
    have HYs : Hid (yb (k + 1) = yb k + (365 + l)) := hys
    obtain ⟨y, hy⟩ : ∃ y : Int, ((2000 + k : Nat) : Int) = y := ⟨_, rfl⟩
    have HY : Hid (((2000 + k : Nat) : Int) = y) := hy
    have hy1 : 2000 ≤ y := by omega
    have hy2 : y ≤ 2099 := by omega
    rw [hy] at e4 e5 ⊢
    clear hy hr hl hys
    rcases hl01 with rfl | rfl
    · have e6 : (y % 4 == 0) = false := e4
      have e7 : (y.tmod 4 == 0) = false := e5
      clear e4 e5
      by_cases hlt : r < 365
      · go_wp2_with fail
        go_loopw [3, 7] (fun day month wx => ∃ s m : Nat, day = .int .i64 (s : Int) ∧ month = .int .i64 (m : Int) ∧ 1 ≤ m ∧ m ≤ 12 ∧ s + mb (lp k) m = r ∧ Below w'.heap.size w' wx) (fun day _ _ => (intOf day).toNat)
        case atStart => exact ⟨r, 1, rfl, rfl, by omega, by omega, rfl, Below.refl _ _⟩
        case round =>
          clear e6 e7
          obtain ⟨s, m, rfl, rfl, hm1, hm2, hs, hB⟩ := hrel
          have A := fun wx => cDaysS_in k m wx hk hm1 hm2
          obtain ⟨D, hD⟩ : ∃ D : Nat, dm (lp k) m = D := ⟨_, rfl⟩
          have hD1 : 28 ≤ D := by rw [← hD]; exact (dm_pos _ _ hm1 hm2).1
          have hD2 : D ≤ 32 := by
            have := (dm_pos (lp k) m hm1 hm2).2
            have : lp k ≤ 1 := by unfold lp; split <;> omega
            omega
          have HD : Hid (dm (lp k) m = D) := hD
          have HS : Hid (s + mb (lp k) m = r) := hs
          have hs2 : s ≤ 366 := by omega
          have HBx : Hid (Below w'.heap.size w' wr) := hB
          rw [hD, HY.out] at A
          clear hD hs hB
          by_cases hlt2 : D ≤ s
          · go_wp2_with fail
            refine (A _).mono ?_
            rintro e w3 ⟨rfl, hb3⟩
            have hB3 : Below w'.heap.size w' w3 := HBx.out.trans (hb3.mono HBx.out.size)
            have HB3 : Hid (Below w'.heap.size w' w3) := hB3
            clear hb3 hB3
            go_wp2_with fail
            refine (A _).mono ?_
            rintro e w4 ⟨rfl, hb4⟩
            have hB4 : Below w'.heap.size w' w4 := HB3.out.trans (hb4.mono HB3.out.size)
            clear hb4 A
            go_wp2_with fail
            go_roundw
            case rel =>
              have h1 := HD.out; have h2 := HS.out; have h3 := HL.out
              have h4 := month_lt hm1 hm2 h2 (by omega) (by omega)
              refine ⟨s - D, m + 1, ?_, ?_, by omega, by omega, ?_, hB4⟩
              · go_num
              · go_num
              · rw [mb_succ _ _ hm1 hm2, h1]; omega
            case measure => simp [intOf]; omega
          · have hdt : IsDate (t / 86400) k m (s + 1) := by
              have h1 := HD.out; have h2 := HS.out; have h3 := HL.out; have h5 := HR.out; have h6 := HDd.out
              exact ⟨hk, hm1, hm2, by omega, by omega, by omega⟩
            obtain ⟨q1, q2, q3⟩ := date_bounds hdt
            have E := HO.out
            rw [textOf_eq HT.out hdt, ← cat_txt] at E
            have HE : Hid (_ = O) := E
            clear E hdt HO
            have CY := fun w => cPadS (2000 + k) 4 w (by omega) (by omega)
            rw [padL_four q1] at CY
            have CM := fun w => cPadS m 2 w (by omega) (by omega)
            rw [padL_two q2] at CM
            have CD := fun w => cPadS (s + 1) 2 w (by omega) (by omega)
            rw [padL_two q3] at CD
            have CH := fun w => cPadS (t % 86400 / 3600) 2 w (by omega) (by omega)
            rw [padL_two (by omega)] at CH
            have CI := fun w => cPadS (t % 3600 / 60) 2 w (by omega) (by omega)
            rw [padL_two (by omega)] at CI
            have CS := fun w => cPadS (t % 60) 2 w (by omega) (by omega)
            rw [padL_two (by omega)] at CS
            have zY : (⟨([50, 48] ++ two k).toArray⟩ : ByteArray).size = 4 := rfl
            have zM : (⟨(two m).toArray⟩ : ByteArray).size = 2 := rfl
            have zD : (⟨(two (s + 1)).toArray⟩ : ByteArray).size = 2 := rfl
            have zH : (⟨(two (t % 86400 / 3600)).toArray⟩ : ByteArray).size = 2 := rfl
            have zI : (⟨(two (t % 3600 / 60)).toArray⟩ : ByteArray).size = 2 := rfl
            have zS : (⟨(two (t % 60)).toArray⟩ : ByteArray).size = 2 := rfl
            generalize (⟨([50, 48] ++ two k).toArray⟩ : ByteArray) = bY at *
            generalize (⟨(two m).toArray⟩ : ByteArray) = bM at *
            generalize (⟨(two (s + 1)).toArray⟩ : ByteArray) = bD at *
            generalize (⟨(two (t % 86400 / 3600)).toArray⟩ : ByteArray) = bH at *
            generalize (⟨(two (t % 3600 / 60)).toArray⟩ : ByteArray) = bI at *
            generalize (⟨(two (t % 60)).toArray⟩ : ByteArray) = bS at *
            rw [show ((t % 86400 / 3600 : Nat) : Int) = (t : Int) % 86400 / 3600 by omega] at CH
            rw [show ((t % 3600 / 60 : Nat) : Int) = (t : Int) % 86400 / 60 % 60 by omega] at CI
            rw [show ((t % 60 : Nat) : Int) = (t : Int) % 60 by omega] at CS
            rw [show ((s + 1 : Nat) : Int) = (s : Int) + 1 by omega] at CD
            rw [HY.out] at CY
            clear q1 q2 q3
            go_wp2_with fail
            refine (A _).mono ?_
            rintro e w3 ⟨rfl, hb⟩
            have HB : Hid (Below w'.heap.size w' w3) := HBx.out.trans (hb.mono HBx.out.size)
            clear hb A
            go_wp2_with fail
            refine (CY _).mono ?_
            rintro e w4 ⟨rfl, hb⟩
            replace HB : Hid (Below w'.heap.size w' w4) := HB.out.trans (hb.mono HB.out.size)
            clear hb CY
            go_wp2_with fail
            refine (CM _).mono ?_
            rintro e w5 ⟨rfl, hb⟩
            replace HB : Hid (Below w'.heap.size w' w5) := HB.out.trans (hb.mono HB.out.size)
            clear hb CM
            go_wp2_with fail
            refine (CD _).mono ?_
            rintro e w6 ⟨rfl, hb⟩
            replace HB : Hid (Below w'.heap.size w' w6) := HB.out.trans (hb.mono HB.out.size)
            clear hb CD
            go_wp2_with fail
            refine (CH _).mono ?_
            rintro e w7 ⟨rfl, hb⟩
            replace HB : Hid (Below w'.heap.size w' w7) := HB.out.trans (hb.mono HB.out.size)
            clear hb CH
            go_wp2_with fail
            refine (CI _).mono ?_
            rintro e w8 ⟨rfl, hb⟩
            replace HB : Hid (Below w'.heap.size w' w8) := HB.out.trans (hb.mono HB.out.size)
            clear hb CI
            go_wp2_with fail
            refine (CS _).mono ?_
            rintro e w9 ⟨rfl, hb⟩
            replace HB : Hid (Below w'.heap.size w' w9) := HB.out.trans (hb.mono HB.out.size)
            clear hb CS
            go_wp2_with fail
            go_ret
            exact ⟨congrArg (fun x => Ending.returned (Value.string x)) HE.out, HB.out⟩
      · go_wp2_with fail
        go_round
        case rel =>
          have h1 := HY.out; have h2 := HR.out; have h3 := HYs.out
          refine ⟨r - 365, k + 1, ?_, ?_, by omega⟩
          · go_num
          · rw [← h1]; go_num
        case measure => simp [intOf]; omega
    · have e6 : (y % 4 == 0) = true := e4
      have e7 : (y.tmod 4 == 0) = true := e5
      clear e4 e5
      by_cases hlt : r < 366
      · go_wp2_with fail
        go_loopw [3, 7] (fun day month wx => ∃ s m : Nat, day = .int .i64 (s : Int) ∧ month = .int .i64 (m : Int) ∧ 1 ≤ m ∧ m ≤ 12 ∧ s + mb (lp k) m = r ∧ Below w'.heap.size w' wx) (fun day _ _ => (intOf day).toNat)
        case atStart => exact ⟨r, 1, rfl, rfl, by omega, by omega, rfl, Below.refl _ _⟩
        case round =>
          clear e6 e7
          obtain ⟨s, m, rfl, rfl, hm1, hm2, hs, hB⟩ := hrel
          have A := fun wx => cDaysS_in k m wx hk hm1 hm2
          obtain ⟨D, hD⟩ : ∃ D : Nat, dm (lp k) m = D := ⟨_, rfl⟩
          have hD1 : 28 ≤ D := by rw [← hD]; exact (dm_pos _ _ hm1 hm2).1
          have hD2 : D ≤ 32 := by
            have := (dm_pos (lp k) m hm1 hm2).2
            have : lp k ≤ 1 := by unfold lp; split <;> omega
            omega
          have HD : Hid (dm (lp k) m = D) := hD
          have HS : Hid (s + mb (lp k) m = r) := hs
          have hs2 : s ≤ 366 := by omega
          have HBx : Hid (Below w'.heap.size w' wr) := hB
          rw [hD, HY.out] at A
          clear hD hs hB
          by_cases hlt2 : D ≤ s
          · go_wp2_with fail
            refine (A _).mono ?_
            rintro e w3 ⟨rfl, hb3⟩
            have hB3 : Below w'.heap.size w' w3 := HBx.out.trans (hb3.mono HBx.out.size)
            have HB3 : Hid (Below w'.heap.size w' w3) := hB3
            clear hb3 hB3
            go_wp2_with fail
            refine (A _).mono ?_
            rintro e w4 ⟨rfl, hb4⟩
            have hB4 : Below w'.heap.size w' w4 := HB3.out.trans (hb4.mono HB3.out.size)
            clear hb4 A
            go_wp2_with fail
            go_roundw
            case rel =>
              have h1 := HD.out; have h2 := HS.out; have h3 := HL.out
              have h4 := month_lt hm1 hm2 h2 (by omega) (by omega)
              refine ⟨s - D, m + 1, ?_, ?_, by omega, by omega, ?_, hB4⟩
              · go_num
              · go_num
              · rw [mb_succ _ _ hm1 hm2, h1]; omega
            case measure => simp [intOf]; omega
          · have hdt : IsDate (t / 86400) k m (s + 1) := by
              have h1 := HD.out; have h2 := HS.out; have h3 := HL.out; have h5 := HR.out; have h6 := HDd.out
              exact ⟨hk, hm1, hm2, by omega, by omega, by omega⟩
            obtain ⟨q1, q2, q3⟩ := date_bounds hdt
            have E := HO.out
            rw [textOf_eq HT.out hdt, ← cat_txt] at E
            have HE : Hid (_ = O) := E
            clear E hdt HO
            have CY := fun w => cPadS (2000 + k) 4 w (by omega) (by omega)
            rw [padL_four q1] at CY
            have CM := fun w => cPadS m 2 w (by omega) (by omega)
            rw [padL_two q2] at CM
            have CD := fun w => cPadS (s + 1) 2 w (by omega) (by omega)
            rw [padL_two q3] at CD
            have CH := fun w => cPadS (t % 86400 / 3600) 2 w (by omega) (by omega)
            rw [padL_two (by omega)] at CH
            have CI := fun w => cPadS (t % 3600 / 60) 2 w (by omega) (by omega)
            rw [padL_two (by omega)] at CI
            have CS := fun w => cPadS (t % 60) 2 w (by omega) (by omega)
            rw [padL_two (by omega)] at CS
            have zY : (⟨([50, 48] ++ two k).toArray⟩ : ByteArray).size = 4 := rfl
            have zM : (⟨(two m).toArray⟩ : ByteArray).size = 2 := rfl
            have zD : (⟨(two (s + 1)).toArray⟩ : ByteArray).size = 2 := rfl
            have zH : (⟨(two (t % 86400 / 3600)).toArray⟩ : ByteArray).size = 2 := rfl
            have zI : (⟨(two (t % 3600 / 60)).toArray⟩ : ByteArray).size = 2 := rfl
            have zS : (⟨(two (t % 60)).toArray⟩ : ByteArray).size = 2 := rfl
            generalize (⟨([50, 48] ++ two k).toArray⟩ : ByteArray) = bY at *
            generalize (⟨(two m).toArray⟩ : ByteArray) = bM at *
            generalize (⟨(two (s + 1)).toArray⟩ : ByteArray) = bD at *
            generalize (⟨(two (t % 86400 / 3600)).toArray⟩ : ByteArray) = bH at *
            generalize (⟨(two (t % 3600 / 60)).toArray⟩ : ByteArray) = bI at *
            generalize (⟨(two (t % 60)).toArray⟩ : ByteArray) = bS at *
            rw [show ((t % 86400 / 3600 : Nat) : Int) = (t : Int) % 86400 / 3600 by omega] at CH
            rw [show ((t % 3600 / 60 : Nat) : Int) = (t : Int) % 86400 / 60 % 60 by omega] at CI
            rw [show ((t % 60 : Nat) : Int) = (t : Int) % 60 by omega] at CS
            rw [show ((s + 1 : Nat) : Int) = (s : Int) + 1 by omega] at CD
            rw [HY.out] at CY
            clear q1 q2 q3
            go_wp2_with fail
            refine (A _).mono ?_
            rintro e w3 ⟨rfl, hb⟩
            have HB : Hid (Below w'.heap.size w' w3) := HBx.out.trans (hb.mono HBx.out.size)
            clear hb A
            go_wp2_with fail
            refine (CY _).mono ?_
            rintro e w4 ⟨rfl, hb⟩
            replace HB : Hid (Below w'.heap.size w' w4) := HB.out.trans (hb.mono HB.out.size)
            clear hb CY
            go_wp2_with fail
            refine (CM _).mono ?_
            rintro e w5 ⟨rfl, hb⟩
            replace HB : Hid (Below w'.heap.size w' w5) := HB.out.trans (hb.mono HB.out.size)
            clear hb CM
            go_wp2_with fail
            refine (CD _).mono ?_
            rintro e w6 ⟨rfl, hb⟩
            replace HB : Hid (Below w'.heap.size w' w6) := HB.out.trans (hb.mono HB.out.size)
            clear hb CD
            go_wp2_with fail
            refine (CH _).mono ?_
            rintro e w7 ⟨rfl, hb⟩
            replace HB : Hid (Below w'.heap.size w' w7) := HB.out.trans (hb.mono HB.out.size)
            clear hb CH
            go_wp2_with fail
            refine (CI _).mono ?_
            rintro e w8 ⟨rfl, hb⟩
            replace HB : Hid (Below w'.heap.size w' w8) := HB.out.trans (hb.mono HB.out.size)
            clear hb CI
            go_wp2_with fail
            refine (CS _).mono ?_
            rintro e w9 ⟨rfl, hb⟩
            replace HB : Hid (Below w'.heap.size w' w9) := HB.out.trans (hb.mono HB.out.size)
            clear hb CS
            go_wp2_with fail
            go_ret
            exact ⟨congrArg (fun x => Ending.returned (Value.string x)) HE.out, HB.out⟩
      · go_wp2_with fail
        go_round
        case rel =>
          have h1 := HY.out; have h2 := HR.out; have h3 := HYs.out
          refine ⟨r - 366, k + 1, ?_, ?_, by omega⟩
          · go_num
          · rw [← h1]; go_num
        case measure => simp [intOf]; omega

theorem t_cTextS (t : Int) (w : World) :
    Calls Tryz.prog 57 #[.int .i64 t] w fun e w' => e = .returned (.string ⟨(textOf t).toArray⟩) ∧ Below w.heap.size w w' := by
  by_cases h : 0 ≤ t ∧ t ≤ 3155759999
  · obtain ⟨n, rfl⟩ : ∃ n : Nat, t = n := ⟨t.toNat, by omega⟩
    exact cTextS_in n w (by omega)
  · rw [textOf_out h]
    have C := fun w => cTimeS t w
    rw [decide_eq_false h] at C
    go_enter Tryz.func57, Tryz.ntmps57
    go_wp2_with fail
    refine (C _).mono ?_
    rintro e w' ⟨rfl, rfl⟩
    go_wp2_with fail
    go_ret
    exact ⟨rfl, Below.refl _ _⟩

theorem cTextI (t : Int) (w : World) (hL : Laid w) :
    Calls Tryz.prog 101 #[.int .i64 t] w fun e w' => e = .returned (.string ⟨(textOf t).toArray⟩) ∧ Below w.heap.size w w' := by
  by_cases h : 0 ≤ t ∧ t ≤ 3155759999
  · obtain ⟨n, rfl⟩ : ∃ n : Nat, t = n := ⟨t.toNat, by omega⟩
    exact cTextI_in n w (by omega) hL
  · rw [textOf_out h]
    have C := fun w => cTimeI t w
    rw [decide_eq_false h] at C
    go_enter Tryz.func101, Tryz.ntmps101
    go_wp2_with fail
    refine (C _).mono ?_
    rintro e w' ⟨rfl, rfl⟩
    go_wp2_with fail
    go_ret
    exact ⟨rfl, Below.refl _ _⟩

end Go.Proofs.YtcjeodgfpnecgaaGreatDoor
