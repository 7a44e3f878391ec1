/- Seals: what the document says of them, as functions of the nodes. Contracts of the specification's l13Seal, l13Seals, SealsOf, Spoken. Contracts of the specification's l13Seals, SealsOf, Spoken. -/
import Derived.Test.YtkejmifkjgpdjaaGreatM14
import Derived.Test.YtkejmifkjgpdjaaGreatM8
import Derived.Test.YtkejmifkjgpdjaaGreatM15
import Derived.Test.YtkejmifkjgpdjaaGreatM11
import Derived.Maps.AppendAt
namespace Go.Proofs.YtkejmifkjgpdjaaGreat
open Go.RowKit
set_option linter.unusedVariables false
set_option linter.unusedSimpArgs false

def sealS : ByteArray := ⟨#[83, 101, 97, 108]⟩
def sealM : ByteArray := ⟨#[115, 101, 97, 108]⟩
def refS : ByteArray := ⟨#[82, 101, 102]⟩
def sumS : ByteArray := ⟨#[83, 117, 109]⟩
def signS : ByteArray := ⟨#[83, 105, 103, 110]⟩

/-- Just ten digits. -/
def tenB (x : ByteArray) : Bool := (numOf x.data.toList).2

theorem num_nn (l : List UInt8) : decide ((numOf l).1 < 0) = false := by
  unfold numOf
  split <;> simp

/-- What a seal may have besides declarations. -/
noncomputable def sealAt (x : At) : Bool := open Classical in decide (x.name = refS) || ((decide (x.name = sumS) || decide (x.name = signS)) && tenB x.value)

/-- All but the declarations. -/
noncomputable def ownA (l : List At) : List At := l.filter fun x => !(declF x).isSome

noncomputable def sealL (l : List At) : Bool := (ownA l).all sealAt && decide ((ownA l).length = 3)

noncomputable def atsJ (ts : List Tk) (k : Nat) : List At := match ts[k]? with
  | some t => t.attrs
  | none => []

noncomputable def sealN (ts : List Tk) (k : Nat) : Bool := !decide ((nameI ts k).size = 0) && knownN ts k sealS sealM && decide (endN ts k = k + 1) && sealL (atsJ ts k)

noncomputable def sealsN (ts : List Tk) (k : Nat) : List Nat := (kidsN ts k).filter (sealN ts)

noncomputable def sealsI (ts : List Tk) (x : Int) : List Nat := if (namesB ts && elemB ts x) = true then sealsN ts x.toNat else []

theorem ownA_skip {l : List At} {y : At} (h : (declF y).isSome = true) : ownA (l ++ [y]) = ownA l := by
  unfold ownA
  rw [List.filter_append, List.filter_cons_of_neg (by rw [h]; decide)]
  simp

theorem ownA_more {l : List At} {y : At} (h : declF y = none) : ownA (l ++ [y]) = ownA l ++ [y] := by
  unfold ownA
  rw [List.filter_append, List.filter_cons_of_pos (by rw [h]; decide)]
  rfl

/-- The first attrs are right, and so many of them are no declarations. -/
def SealTo (l : List At) (n : Nat) : Prop := (ownA l).all sealAt = true ∧ (ownA l).length = n

theorem sealTo_nil : SealTo [] 0 := ⟨rfl, rfl⟩

theorem SealTo.skip {l : List At} {y : At} {n : Nat} (h : SealTo l n) (hd : (declF y).isSome = true) : SealTo (l ++ [y]) n := by
  unfold SealTo
  rw [ownA_skip hd]
  exact h

theorem SealTo.more {l : List At} {y : At} {n : Nat} (h : SealTo l n) (hd : declF y = none) (hs : sealAt y = true) : SealTo (l ++ [y]) (n + 1) := by
  unfold SealTo
  rw [ownA_more hd, List.all_append, List.length_append, h.1, h.2]
  simp [hs]

theorem SealTo.le {l : List At} {n : Nat} (h : SealTo l n) : n ≤ l.length := by
  rw [← h.2]
  exact List.length_filter_le _ _

theorem SealTo.is {l : List At} {n : Nat} (h : SealTo l n) : sealL l = decide (n = 3) := by
  unfold sealL
  rw [h.1, h.2, Bool.true_and]

theorem sealL_bad {l : List At} {y : At} (hm : y ∈ l) (hd : declF y = none) (hs : sealAt y = false) : sealL l = false := by
  unfold sealL
  have h : (ownA l).all sealAt = false := by
    rw [List.all_eq_false]
    exact ⟨y, List.mem_filter.2 ⟨hm, by rw [hd]; rfl⟩, by rw [hs]; decide⟩
  rw [h]
  rfl

theorem ref_beq (s : ByteArray) : (s.toList == [82, 101, 102]) = decide (s = refS) := by
  rw [← str_beq]
  have e : refS.toList = [82, 101, 102] := by rw [ByteArray.toList_eq]; rfl
  rw [e]

theorem sum_beq (s : ByteArray) : (s.toList == [83, 117, 109]) = decide (s = sumS) := by
  rw [← str_beq]
  have e : sumS.toList = [83, 117, 109] := by rw [ByteArray.toList_eq]; rfl
  rw [e]

theorem sign_beq (s : ByteArray) : (s.toList == [83, 105, 103, 110]) = decide (s = signS) := by
  rw [← str_beq]
  have e : signS.toList = [83, 105, 103, 110] := by rw [ByteArray.toList_eq]; rfl
  rw [e]

end Go.Proofs.YtkejmifkjgpdjaaGreat

namespace Go.Proofs.YtkejmifkjgpdjaaGreat
open Go.RowKit
set_option linter.unusedVariables false
set_option linter.unusedSimpArgs false

set_option maxRecDepth 4000 in
set_option maxHeartbeats 8000000 in
theorem c_spec_l13Seal (a : Option Addr) (cap : Nat) (ts : List Tk) (k : Nat) (w : World) (hR : TkRow w a ts) (hT : TreeP ts) (hk : k < ts.length) (hn : ts.length ≤ 1048576) (hz : TksSz 1048576 ts) :
    Calls Tryz.prog 16 #[.slice a ts.length cap, .int .i64 (k : Int)] w fun e w' => e = .returned (.bool (sealN ts k)) ∧ Below w.heap.size w w' := by
  have CK := hid (fun wx (hb : Below w.heap.size w wx) => c_spec_l9Known a cap ts k sealS sealM wx (hR.below hb) hT hk hn hz)
  have CE := hid (fun wx (hb : Below w.heap.size w wx) => cEndS a cap ts k wx (hR.below hb) hk hn)
  obtain ⟨t, hts, hti, hrow⟩ := row_at hk
  have HZT := hid (hz _ hts)
  have hnm : nameI ts k = t.name := by rw [nameI_at hk]; rw [List.getElem?_eq_getElem hk] at hti; cases hti; rfl
  have hat : atsJ ts k = t.attrs := by unfold atsJ; rw [hti]
  have HROW := hid (fun wx (hb : Below w.heap.size w wx) => hrow wx _ (hR.below hb))
  have HS := hid (show sealN ts k = (!decide (t.name.size = 0) && knownN ts k sealS sealM && decide (endN ts k = k + 1) && sealL t.attrs) by unfold sealN; rw [hnm, hat])
  rw [HS.out]
  clear HS hnm hat hrow hti hts hR hT hz
  have E := empty_is t.name
  obtain ⟨b, o, aa, ca, rfl, hb, c1, c2, hA⟩ := HROW.out _ (Below.refl _ _)
  clear c2 hA hb
  generalize knownN ts k sealS sealM = K at *
  generalize endN ts k = N at *
  generalize ts.length = n at *
  have hkn : (k : Int) < (n : Int) := by omega
  obtain ⟨nA, hnA⟩ : ∃ nA, t.attrs.length = nA := ⟨_, rfl⟩
  have HNA := hid hnA
  have hnA1 : nA ≤ 1048576 := by rw [← hnA]; exact HZT.out.2.1
  rw [hnA] at HROW
  clear hnA
  generalize decide (t.name.size = 0) = Q at *
  generalize t.name = nm at c1 E
  cases Q with
  | true =>
    go_enter Tryz.func16, Tryz.ntmps16
    go_wp2_with fail
    go_ret
    exact ⟨rfl, Below.refl _ _⟩
  | false =>
    cases K with
    | false =>
      go_enter Tryz.func16, Tryz.ntmps16
      go_wp2_with fail
      refine (CK.out _ (Below.refl _ _)).mono ?_
      rintro e w1 ⟨rfl, hb1⟩
      have HB1 := hid hb1
      clear hb1
      go_wp2_with fail
      go_ret
      exact ⟨rfl, HB1.out⟩
    | true =>
      by_cases hN : N = k + 1
      case neg =>
        have hd : decide (N = k + 1) = false := decide_eq_false hN
        have hd2 : ((N : Int) == (k : Int) + 1) = false := by simp; omega
        have hd3 : ((N : Int) != (k : Int) + 1) = true := by unfold bne; rw [hd2]; rfl
        rw [hd]
        clear hd hN
        go_enter Tryz.func16, Tryz.ntmps16
        go_wp2_with fail
        refine (CK.out _ (Below.refl _ _)).mono ?_
        rintro e w1 ⟨rfl, hb1⟩
        have HB1 := hid hb1
        clear hb1
        go_wp2_with fail
        refine (CE.out _ HB1.out).mono ?_
        rintro e w2 ⟨rfl, rfl⟩
        go_wp2_with fail
        go_ret
        exact ⟨rfl, HB1.out⟩
      case pos =>
        have hd : decide (N = k + 1) = true := decide_eq_true hN
        have hd2 : ((N : Int) == (k : Int) + 1) = true := by simp; omega
        have hd3 : ((N : Int) != (k : Int) + 1) = false := by unfold bne; rw [hd2]; rfl
        rw [hd]
        clear hd hN
        simp only [Bool.not_false, Bool.true_and]
        obtain ⟨V, hV⟩ : ∃ V, sealL t.attrs = V := ⟨_, rfl⟩
        have HV := hid hV
        rw [hV]
        clear hV
        go_enter Tryz.func16, Tryz.ntmps16
        go_wp2_with fail
        refine (CK.out _ (Below.refl _ _)).mono ?_
        rintro e w1 ⟨rfl, hb1⟩
        have HB1 := hid hb1
        clear hb1 CK c1 E
        go_wp2_with fail
        refine (CE.out _ HB1.out).mono ?_
        rintro e w2 ⟨rfl, rfl⟩
        clear CE
        go_wp2_with fail
        go_loopw [5, 6] (fun v5 v6 wr => ∃ (j m : Nat), v5 = .int .i64 (m : Int) ∧ v6 = .int .i64 (j : Int) ∧ j ≤ nA ∧ m ≤ j ∧ Hid (SealTo (t.attrs.take j) m) ∧ Hid (Below w.heap.size w wr)) (fun _ v6 _ => nA - (intOf v6).toNat)
        case atStart => exact ⟨0, 0, rfl, rfl, Nat.zero_le _, Nat.zero_le _, by rw [List.take_zero]; exact sealTo_nil, HB1.out⟩
        case round =>
          clear HB1 hd2 hd3
          obtain ⟨j, m, rfl, rfl, hj, hm, HK, HB⟩ := hrel
          obtain ⟨b', o', aa, ca, e', hb, c1, c2, hA⟩ := HROW.out _ HB.out
          obtain ⟨rfl, rfl⟩ : b = b' ∧ o = o' := by cases e'; exact ⟨rfl, rfl⟩
          clear e' c1 hb
          by_cases hjl : j < nA
          · have hjt : j < t.attrs.length := by rw [HNA.out]; exact hjl
            have hjn : (j : Int) < (nA : Int) := by omega
            obtain ⟨b2, o2, rfl, hb2, e1, e2⟩ := hA j hjt
            have HTS := hid (take_snocN hjt)
            have HSZ := hid (HZT.out.2.2.1 _ (List.getElem_mem hjt))
            have HME := hid (List.getElem_mem hjt)
            obtain ⟨y, hy⟩ : ∃ y, t.attrs[j] = y := ⟨_, rfl⟩
            rw [hy] at e1 e2 HTS HSZ HME
            have CD := hid (fun wx => c_spec_l9Declares y wx HSZ.out.1)
            have CN := hid (fun wx => cNumS y.value wx HSZ.out.2)
            have HBX := hid ((Below.refl wr.heap.size wr).alloc (Nat.le_refl _) (.cells #[.string y.name, .string y.value] 62))
            have HBOX := hid (box_two wr (.string y.name) (.string y.value) 62)
            clear hy hA
            go_wp2_with fail
            refine (CD.out _).mono ?_
            rintro e w4 ⟨rfl, hb4⟩
            have HB4 := hid (bb HB.out (bb HBX.out hb4))
            have d1 := (hb4.cell (p := ⟨wr.heap.size, 0, none⟩) HBOX.out.2.2).trans HBOX.out.1
            have d2 := (hb4.cell (p := ⟨wr.heap.size, 1, none⟩) HBOX.out.2.2).trans HBOX.out.2.1
            clear hb4 HBX HBOX CD e1 e2 c2 hb2 HB
            cases hd : declF y with
            | some q =>
              have HS := hid (HK.out.skip (show (declF y).isSome = true by rw [hd]; rfl))
              rw [← HTS.out] at HS
              clear hd d1 d2
              go_wp2_with fail
              go_roundw
              case rel => exact ⟨j + 1, m, rfl, by go_num, by omega, by omega, HS.out, HB4.out⟩
              case measure => simp [intOf]; omega
            | none =>
              have HD := hid hd
              clear hd
              go_wp2_with fail
              refine (CN.out _).mono ?_
              rintro e w5 ⟨rfl, rfl⟩
              clear CN
              have hx := num_nn y.value.data.toList
              have h1 := ref_beq y.name
              have h2 := sum_beq y.name
              have h3 := sign_beq y.name
              have HW := hid (show sealAt y = (decide (y.name = refS) || ((decide (y.name = sumS) || decide (y.name = signS)) && (numOf y.value.data.toList).2)) by unfold sealAt tenB; congr)
              generalize decide (y.name = refS) = R at *
              generalize decide (y.name = sumS) = S at *
              generalize decide (y.name = signS) = G at *
              generalize (numOf y.value.data.toList).2 = I at *
              generalize (numOf y.value.data.toList).1 = X at *
              have h4 : (y.name.toList != [82, 101, 102]) = !R := by unfold bne; rw [h1]
              have h5 : (y.name.toList != [83, 117, 109]) = !S := by unfold bne; rw [h2]
              have h6 : (y.name.toList != [83, 105, 103, 110]) = !G := by unfold bne; rw [h3]
              cases hw : (R || ((S || G) && I)) with
              | true =>
                rw [hw] at HW
                have HS := hid (HK.out.more HD.out HW.out)
                rw [← HTS.out] at HS
                clear HW HD HME HSZ HTS HK HZT HNA
                cases R <;> cases S <;> cases G <;> cases I <;> first
                  | (exfalso; revert hw; decide)
                  | (clear hw
                     simp only [Bool.not_true, Bool.not_false] at h4 h5 h6
                     go_wp2_with fail
                     go_roundw
                     case rel => exact ⟨j + 1, m + 1, by go_num, by go_num, by omega, by omega, HS.out, HB4.out⟩
                     case measure => simp [intOf]; omega)
              | false =>
                rw [hw] at HW
                have HX := hid (HV.out.symm.trans (sealL_bad HME.out HD.out HW.out))
                clear HW HD HME HSZ HTS HK HZT HNA HV
                cases R <;> cases S <;> cases G <;> cases I <;> first
                  | (exfalso; revert hw; decide)
                  | (clear hw
                     simp only [Bool.not_true, Bool.not_false] at h4 h5 h6
                     go_wp2_with fail
                     go_ret
                     exact ⟨by rw [HX.out]; rfl, HB4.out⟩)
          · have hje : j = nA := by omega
            subst hje
            have HX := hid (show V = decide (m = 3) by
              rw [← HV.out]
              have h := HK.out
              rw [List.take_of_length_le (by rw [HNA.out]; exact Nat.le_refl _)] at h
              exact h.is)
            have he : ((m : Int) == 3) = decide (m = 3) := by
              by_cases q : m = 3
              · subst q; rfl
              · rw [decide_eq_false q]; simp; omega
            clear hA
            generalize decide (m = 3) = Y at *
            go_wp2_with fail
            go_ret
            exact ⟨by rw [HX.out]; rfl, HB.out⟩

end Go.Proofs.YtkejmifkjgpdjaaGreat

namespace Go.Proofs.YtkejmifkjgpdjaaGreat
open Go.RowKit
set_option linter.unusedVariables false
set_option linter.unusedSimpArgs false

/-- The seals among the first kids. -/
noncomputable def sealsTo (ts : List Tk) (l : List Nat) (q : Nat) : List Nat := (l.take q).filter (sealN ts)

theorem sealsTo_next {ts : List Tk} {l : List Nat} {q : Nat} (h : q < l.length) : sealsTo ts l (q + 1) = sealsTo ts l q ++ (if sealN ts l[q] = true then [l[q]] else []) := by
  unfold sealsTo
  rw [take_snocN h, List.filter_append]
  congr 1
  by_cases q : sealN ts l[q] = true
  · rw [if_pos q, List.filter_cons_of_pos q]
    rfl
  · rw [if_neg q, List.filter_cons_of_neg q]
    rfl

theorem sealsTo_len (ts : List Tk) (l : List Nat) (q : Nat) : (sealsTo ts l q).length ≤ q := by
  unfold sealsTo
  have h1 := List.length_filter_le (sealN ts) (l.take q)
  have h2 := List.length_take_le q l
  omega

theorem sealsI_len (ts : List Tk) (x : Int) : (sealsI ts x).length ≤ ts.length := by
  unfold sealsI
  split
  · unfold sealsN kidsN kidsTo
    exact Nat.le_trans (List.length_filter_le _ _) (Nat.le_trans (List.length_filter_le _ _) (by rw [List.length_range]; exact Nat.le_refl _))
  · exact Nat.zero_le _

end Go.Proofs.YtkejmifkjgpdjaaGreat
