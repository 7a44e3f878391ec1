/-  -/
import Derived.Test.YtoioiddjbanahaaGreatDoorM8
import Derived.Test.YtoioiddjbanahaaGreatDoorM16
import Derived.Test.YtoioiddjbanahaaGreatDoorM15
import Derived.Test.YtoioiddjbanahaaGreatDoorM14
import Derived.Maps.AppendAt
set_option linter.unusedVariables false
set_option linter.unusedSimpArgs false
namespace Go.Proofs.YtoioiddjbanahaaGreatDoor

open Go.RowKit

def IntRow (w : World) (a : Option Addr) (l : List Nat) : Prop := ∀ j (h : j < l.length), ∃ b o, a = some ⟨b, o, none⟩ /\ b < w.heap.size /\ w.cell? ⟨b, o + j, none⟩ = some (.int .i64 (l[j] : Int))

theorem IntRow.below {w w' : World} {a : Option Addr} {l : List Nat} (h : IntRow w a l) (hb : Below w.heap.size w w') : IntRow w' a l := by
 intro j hj
 obtain ⟨b, o, ha, hlt, c⟩ := h j hj
 exact ⟨b, o, ha, Nat.lt_of_lt_of_le hlt hb.size, (hb.cell (p := ⟨b, o + j, none⟩) hlt).trans c⟩

theorem own64 {w : World} {B : Nat} {v : Value} {l : List Nat} (h : w.ownsRow B 2 1 v l.length (intC l)) : ∃ a cap, v = .slice a l.length cap /\ IntRow w a l := by
 rcases h.2 with ⟨rfl, h0⟩ | ⟨g, cap, cur, rfl, hg, hh, hn, hc, hs, ht⟩
 ·have : l = [] := List.eq_nil_of_length_eq_zero h0
  subst this
  exact ⟨none, 0, rfl, fun j hj => absurd hj (Nat.not_lt_zero _)⟩
 ·refine ⟨_, _, rfl, fun j hj => ⟨g, 0, rfl, lt_of_heap hh, ?_⟩⟩
  obtain ⟨g', cap', e, _, c⟩ := (row64 ⟨h.1, .inr ⟨g, cap, cur, rfl, hg, hh, hn, hc, hs, ht⟩⟩).2 j hj
  cases e
  rw [Nat.zero_add]
  exact c

end Go.Proofs.YtoioiddjbanahaaGreatDoor

namespace Go.Proofs.YtoioiddjbanahaaGreatDoor

open Go.RowKit

set_option maxRecDepth 4000 in
set_option maxHeartbeats 8000000 in
theorem c_spec_l13Seal (a : Option Addr) (cap : Nat) (ts : List Tk) (k : Nat) (w : World) (hR : TkRow w a ts) (hT : TreeP ts) (hk : k < ts.length) (hn : ts.length <= 1048576) (hz : TksSz 1048576 ts) :
    Calls Tryz.prog 66 #[.slice a ts.length cap, .int .i64 (k : Int)] w fun e w' => e = .returned (.bool (sealN ts k)) /\ Below w.heap.size w w' := by
  have CK := hid (fun wx (hb : Below w.heap.size w wx) => c_spec_l9Known a cap ts k sealS sealM wx (hR.below hb) hT hk hn hz)
  have CE := hid (fun wx (hb : Below w.heap.size w wx) => cEndS a cap ts k wx (hR.below hb) hk hn)
  obtain ⟨t, hts, hti, hrow⟩ := row_at hk
  have HZT := hid (hz _ hts)
  have hnm : nameI ts k = t.name := by rw [nameI_at hk]; rw [List.getElem?_eq_getElem hk] at hti; cases hti; rfl
  have hat : atsJ ts k = t.attrs := by unfold atsJ; rw [hti]
  have HROW := hid (fun wx (hb : Below w.heap.size w wx) => hrow wx _ (hR.below hb))
  have HS := hid (show sealN ts k = (!decide (t.name.size = 0) && knownN ts k sealS sealM && decide (endN ts k = k + 1) && sealL t.attrs) by unfold sealN; rw [hnm, hat])
  rw [HS.out]
  clear HS hnm hat hrow hti hts hR hT hz
  have E := empty_is t.name
  obtain ⟨b, o, aa, ca, rfl, hb, c1, c2, hA⟩ := HROW.out _ (Below.refl _ _)
  clear c2 hA hb
  generalize knownN ts k sealS sealM = K at *
  generalize endN ts k = N at *
  generalize ts.length = n at *
  have hkn : (k : Int) < (n : Int) := by omega
  obtain ⟨nA, hnA⟩ : ∃ nA, t.attrs.length = nA := ⟨_, rfl⟩
  have HNA := hid hnA
  have hnA1 : nA <= 1048576 := by rw [<- hnA]; exact HZT.out.2.1
  rw [hnA] at HROW
  clear hnA
  generalize decide (t.name.size = 0) = Q at *
  generalize t.name = nm at c1 E
  cases Q with
  | true =>
    go_enter Tryz.func66, Tryz.ntmps66
    go_wp2_with fail
    go_ret
    exact ⟨rfl, Below.refl _ _⟩
  | false =>
    cases K with
    | false =>
      go_enter Tryz.func66, Tryz.ntmps66
      go_wp2_with fail
      refine (CK.out _ (Below.refl _ _)).mono ?_
      rintro e w1 ⟨rfl, hb1⟩
      have HB1 := hid hb1
      clear hb1
      go_wp2_with fail
      go_ret
      exact ⟨rfl, HB1.out⟩
    | true =>
      by_cases hN : N = k + 1
      case neg =>
        have hd : decide (N = k + 1) = false := decide_eq_false hN
        have hd2 : ((N : Int) == (k : Int) + 1) = false := by simp; omega
        have hd3 : ((N : Int) != (k : Int) + 1) = true := by unfold bne; rw [hd2]; rfl
        rw [hd]
        clear hd hN
        go_enter Tryz.func66, Tryz.ntmps66
        go_wp2_with fail
        refine (CK.out _ (Below.refl _ _)).mono ?_
        rintro e w1 ⟨rfl, hb1⟩
        have HB1 := hid hb1
        clear hb1
        go_wp2_with fail
        refine (CE.out _ HB1.out).mono ?_
        rintro e w2 ⟨rfl, rfl⟩
        go_wp2_with fail
        go_ret
        exact ⟨rfl, HB1.out⟩
      case pos =>
        have hd : decide (N = k + 1) = true := decide_eq_true hN
        have hd2 : ((N : Int) == (k : Int) + 1) = true := by simp; omega
        have hd3 : ((N : Int) != (k : Int) + 1) = false := by unfold bne; rw [hd2]; rfl
        rw [hd]
        clear hd hN
        simp only [Bool.not_false, Bool.true_and]
        obtain ⟨V, hV⟩ : ∃ V, sealL t.attrs = V := ⟨_, rfl⟩
        have HV := hid hV
        rw [hV]
        clear hV
        go_enter Tryz.func66, Tryz.ntmps66
        go_wp2_with fail
        refine (CK.out _ (Below.refl _ _)).mono ?_
        rintro e w1 ⟨rfl, hb1⟩
        have HB1 := hid hb1
        clear hb1 CK c1 E
        go_wp2_with fail
        refine (CE.out _ HB1.out).mono ?_
        rintro e w2 ⟨rfl, rfl⟩
        clear CE
        go_wp2_with fail
        go_loopw [5, 6] (fun v5 v6 wr => ∃ (j m : Nat), v5 = .int .i64 (m : Int) /\ v6 = .int .i64 (j : Int) /\ j <= nA /\ m <= j /\ Hid (SealTo (t.attrs.take j) m) /\ Hid (Below w.heap.size w wr)) (fun _ v6 _ => nA - (intOf v6).toNat)
        case atStart => exact ⟨0, 0, rfl, rfl, Nat.zero_le _, Nat.zero_le _, by rw [List.take_zero]; exact sealTo_nil, HB1.out⟩
        case round =>
          clear HB1 hd2 hd3
          obtain ⟨j, m, rfl, rfl, hj, hm, HK, HB⟩ := hrel
          obtain ⟨b', o', aa, ca, e', hb, c1, c2, hA⟩ := HROW.out _ HB.out
          obtain ⟨rfl, rfl⟩ : b = b' /\ o = o' := by cases e'; exact ⟨rfl, rfl⟩
          clear e' c1 hb
          by_cases hjl : j < nA
          · have hjt : j < t.attrs.length := by rw [HNA.out]; exact hjl
            have hjn : (j : Int) < (nA : Int) := by omega
            obtain ⟨b2, o2, rfl, hb2, e1, e2⟩ := hA j hjt
            have HTS := hid (take_snocN hjt)
            have HSZ := hid (HZT.out.2.2.1 _ (List.getElem_mem hjt))
            have HME := hid (List.getElem_mem hjt)
            obtain ⟨y, hy⟩ : ∃ y, t.attrs[j] = y := ⟨_, rfl⟩
            rw [hy] at e1 e2 HTS HSZ HME
            have CD := hid (fun wx => c_spec_l9Declares y wx HSZ.out.1)
            have CN := hid (fun wx => cNumS y.value wx HSZ.out.2)
            have HBX := hid ((Below.refl wr.heap.size wr).alloc (Nat.le_refl _) (.cells #[.string y.name, .string y.value] 67))
            have HBOX := hid (box_two wr (.string y.name) (.string y.value) 67)
            clear hy hA
            go_wp2_with fail
            refine (CD.out _).mono ?_
            rintro e w4 ⟨rfl, hb4⟩
            have HB4 := hid (bb HB.out (bb HBX.out hb4))
            have d1 := (hb4.cell (p := ⟨wr.heap.size, 0, none⟩) HBOX.out.2.2).trans HBOX.out.1
            have d2 := (hb4.cell (p := ⟨wr.heap.size, 1, none⟩) HBOX.out.2.2).trans HBOX.out.2.1
            clear hb4 HBX HBOX CD e1 e2 c2 hb2 HB
            cases hd : declF y with
            | some q =>
              have HS := hid (HK.out.skip (show (declF y).isSome = true by rw [hd]; rfl))
              rw [<- HTS.out] at HS
              clear hd d1 d2
              go_wp2_with fail
              go_roundw
              case rel => exact ⟨j + 1, m, rfl, by go_num, by omega, by omega, HS.out, HB4.out⟩
              case measure => simp [intOf]; omega
            | none =>
              have HD := hid hd
              clear hd
              go_wp2_with fail
              refine (CN.out _).mono ?_
              rintro e w5 ⟨rfl, rfl⟩
              clear CN
              have hx := num_nn y.value.data.toList
              have h1 := ref_beq y.name
              have h2 := sum_beq y.name
              have h3 := sign_beq y.name
              have HW := hid (show sealAt y = (decide (y.name = refS) || ((decide (y.name = sumS) || decide (y.name = signS)) && (numOf y.value.data.toList).2)) by unfold sealAt tenB; congr)
              generalize decide (y.name = refS) = R at *
              generalize decide (y.name = sumS) = S at *
              generalize decide (y.name = signS) = G at *
              generalize (numOf y.value.data.toList).2 = I at *
              generalize (numOf y.value.data.toList).1 = X at *
              have h4 : (y.name.toList != [82, 101, 102]) = !R := by unfold bne; rw [h1]
              have h5 : (y.name.toList != [83, 117, 109]) = !S := by unfold bne; rw [h2]
              have h6 : (y.name.toList != [83, 105, 103, 110]) = !G := by unfold bne; rw [h3]
              cases hw : (R || ((S || G) && I)) with
              | true =>
                rw [hw] at HW
                have HS := hid (HK.out.more HD.out HW.out)
                rw [<- HTS.out] at HS
                clear HW HD HME HSZ HTS HK HZT HNA
                cases R <;> cases S <;> cases G <;> cases I <;> first
                  | (exfalso; revert hw; decide)
                  | (clear hw
                     simp only [Bool.not_true, Bool.not_false] at h4 h5 h6
                     go_wp2_with fail
                     go_roundw
                     case rel => exact ⟨j + 1, m + 1, by go_num, by go_num, by omega, by omega, HS.out, HB4.out⟩
                     case measure => simp [intOf]; omega)
              | false =>
                rw [hw] at HW
                have HX := hid (HV.out.symm.trans (sealL_bad HME.out HD.out HW.out))
                clear HW HD HME HSZ HTS HK HZT HNA HV
                cases R <;> cases S <;> cases G <;> cases I <;> first
                  | (exfalso; revert hw; decide)
                  | (clear hw
                     simp only [Bool.not_true, Bool.not_false] at h4 h5 h6
                     go_wp2_with fail
                     go_ret
                     exact ⟨by rw [HX.out]; rfl, HB4.out⟩)
          · have hje : j = nA := by omega
            subst hje
            have HX := hid (show V = decide (m = 3) by
              rw [<- HV.out]
              have h := HK.out
              rw [List.take_of_length_le (by rw [HNA.out]; exact Nat.le_refl _)] at h
              exact h.is)
            have he : ((m : Int) == 3) = decide (m = 3) := by
              by_cases q : m = 3
              · subst q; rfl
              · rw [decide_eq_false q]; simp; omega
            clear hA
            generalize decide (m = 3) = Y at *
            go_wp2_with fail
            go_ret
            exact ⟨by rw [HX.out]; rfl, HB.out⟩

end Go.Proofs.YtoioiddjbanahaaGreatDoor

namespace Go.Proofs.YtoioiddjbanahaaGreatDoor

open Go.RowKit

noncomputable def sealsTo (ts : List Tk) (l : List Nat) (q : Nat) : List Nat := (l.take q).filter (sealN ts)

theorem sealsTo_next {ts : List Tk} {l : List Nat} {q : Nat} (h : q < l.length) : sealsTo ts l (q + 1) = sealsTo ts l q ++ (if sealN ts l[q] = true then [l[q]] else []) := by
 unfold sealsTo
 rw [take_snocN h, List.filter_append]
 congr 1
 by_cases q : sealN ts l[q] = true
 ·rw [if_pos q, List.filter_cons_of_pos q]
  rfl
 ·rw [if_neg q, List.filter_cons_of_neg q]
  rfl

theorem sealsTo_len (ts : List Tk) (l : List Nat) (q : Nat) : (sealsTo ts l q).length <= q := by
 unfold sealsTo
 have h1 := List.length_filter_le (sealN ts) (l.take q)
 have h2 := List.length_take_le q l
 omega

set_option maxRecDepth 8000 in
set_option maxHeartbeats 4000000 in
theorem c_spec_l13Seals (a : Option Addr) (cap : Nat) (ts : List Tk) (k : Nat) (w : World) (hR : TkRow w a ts) (hT : TreeP ts) (hk : k < ts.length) (hn : ts.length <= 1048576) (hz : TksSz 1048576 ts) :
  Calls Tryz.prog 138 #[.slice a ts.length cap, .int .i64 (k : Int)] w fun e w' => ∃ v, e = .returned v /\ w'.ownsRow w.heap.size 2 1 v (sealsN ts k).length (intC (sealsN ts k)) /\ Below w.heap.size w w' := by
 obtain ⟨i0, hi, hz0, hz1, hz2⟩ := info_parts info64
 have HI := hid (And.intro hi (And.intro hz0 (And.intro hz1 hz2)))
 clear hi hz0 hz1 hz2
 have CK := hid (fun wx (hb : Below w.heap.size w wx) => cKidsS a cap ts k wx (hR.below hb) hk hn)
 have CS := hid (fun (j : Nat) (hj : j < ts.length) wx (hb : Below w.heap.size w wx) => c_spec_l13Seal a cap ts j wx (hR.below hb) hT hj hn hz)
 have HL := hid (fun (q : Nat) (hq : q < (kidsN ts k).length) => kidsN_lt (List.getElem_mem hq))
 have hlk : (kidsN ts k).length <= ts.length := by
  unfold kidsN kidsTo
  exact Nat.le_trans (List.length_filter_le _ _) (by rw [List.length_range]; exact Nat.le_refl _)
 have HE := hid (show sealsN ts k = sealsTo ts (kidsN ts k) (kidsN ts k).length by unfold sealsN sealsTo; rw [List.take_length])
 rw [HE.out]
 clear HE hR hT hz
 generalize kidsN ts k = L at *
 generalize ts.length = n at *
 obtain ⟨m, hm⟩ : ∃ m, L.length = m := ⟨_, rfl⟩
 have HM := hid hm
 rw [hm] at CK hlk ⊢
 clear hm
 go_enter Tryz.func138, Tryz.ntmps138
 go_wp2_with fail
 have HBA := hid ((Below.refl w.heap.size w).alloc (Nat.le_refl _) (.cells #[] 2))
 refine (CK.out _ HBA.out).mono ?_
 rintro e w1 ⟨v6, rfl, ho6, hb1⟩
 have HB1 := hid (bb HBA.out hb1)
 have HO1 := hid (ownsRow_below (World.ownsRow_made (base := w.heap.size) (e := 2) (size := 1) w #[] 0 (Nat.le_refl w.heap.size) (by decide) rfl) hb1)
 rw [<- HM.out] at ho6
 have hlt6 := ho6.lt
 obtain ⟨a6, c6, rfl, hr6⟩ := own64 ho6
 have HR6 := hid hr6
 have HF1 := hid (show ∀ x y, (Value.slice a6 L.length c6).ownBlock = some x -> (Value.slice (some ⟨w.heap.size, 0, none⟩) 0 0).ownBlock = some y -> ¬ y = x from fun x y hx hy => by
  have h := (hlt6 x hx).1
  have hy' : w.heap.size = y := Option.some.inj hy
  rw [World.size_alloc] at h
  omega)
 clear hlt6
 rw [HM.out] at HF1 ⊢
 clear hb1 ho6 hr6 CK HBA
 go_wp2_with fail
 go_loopw [5, 7] (fun v x wr => ∃ q : Nat, x = .int .i64 (q : Int) /\ q <= m /\ Hid (wr.ownsRow w.heap.size 2 1 v (sealsTo ts L q).length (intC (sealsTo ts L q))) /\ Hid (IntRow wr a6 L) /\ Hid (∀ x y, (Value.slice a6 m c6).ownBlock = some x -> v.ownBlock = some y -> ¬ y = x) /\ Hid (Below w.heap.size w wr)) (fun _ x _ => m - (intOf x).toNat)
 case atStart => exact ⟨0, rfl, Nat.zero_le _, HO1.out, HR6.out, HF1.out, HB1.out⟩
 case round =>
  clear HB1 HO1 HR6 HF1
  obtain ⟨q, rfl, hq, HO, HR, HF, HB⟩ := hrel
  by_cases hlt : q < m
  ·have hql : q < L.length := by rw [HM.out]; exact hlt
   have hqm : (q : Int) < (m : Int) := by omega
   obtain ⟨b, o, rfl, hb, c1⟩ := HR.out q hql
   have CS1 := hid (fun wx hb => CS.out L[q] (HL.out q hql) wx hb)
   have HX := hid (sealsTo_next (ts := ts) hql)
   obtain ⟨j, hj⟩ : ∃ j, L[q] = j := ⟨_, rfl⟩
   rw [hj] at c1 CS1 HX
   clear hj
   generalize sealN ts j = K at *
   go_wp2_with fail
   refine (CS1.out _ HB.out).mono ?_
   rintro e1 w2 ⟨rfl, hb2⟩
   have HB2 := hid (bb HB.out hb2)
   have HO2 := hid (ownsRow_below HO.out hb2)
   have HR2 := hid (HR.out.below hb2)
   have c2 := (hb2.cell (p := ⟨b, o + q, none⟩) hb).trans c1
   clear hb2 HO HB CS1 c1
   cases K with
   | false =>
    go_wp2_with fail
    go_roundw
    case rel => exact ⟨q + 1, by go_num, by omega, by rw [show sealsTo ts L (q + 1) = sealsTo ts L q by rw [HX.out]; exact List.append_nil _]; exact HO2.out, HR2.out, HF.out, HB2.out⟩
    case measure => simp [intOf]; omega
   | true =>
    have hlen := sealsTo_len ts L q
    obtain ⟨hi, hz0, hz1, hz2⟩ := HI.out
    have hsz := HB2.out.size
    have HOA := hid (HO2.out.alloc (.cells #[.int .i64 (j : Int)] 2))
    have hlen2 : (intC (sealsTo ts L q)).length <= q := by rw [intC_len]; exact hlen
    go_wp2_with (at_builtin; refine wpList_append_own_at _ rfl _ _ 131 rfl w.heap.size 2 i0 (.int .i64 0) 1 8 Tryz.underlying131 hi hz0 hz1 hz2 rfl (by decide) _ _ _ rfl HOA.out ⟨w2.heap.size, 0, none⟩ 1 1 [.int .i64 (j : Int)] rfl rfl ?c1 ?c2 ?c3 ?c4 ?c5 ?_)
    case c1 => exact one_cell64 _ _
    case c2 => exact one_one64 _
    case c3 => unfold maxLen; omega
    case c4 => omega
    case c5 => simp; omega
    intro v' w3 hown' hgrow _ hat
    have HO3 := hid (show w3.ownsRow w.heap.size 2 1 v' (sealsTo ts L (q + 1)).length (intC (sealsTo ts L (q + 1))) by rw [HX.out, intC_app, List.length_append]; exact hown')
    have HB3 := hid ((HB2.out.alloc hsz (.cells #[.int .i64 (j : Int)] 2)).grown hgrow (by simp; omega) (fun g hg => (HOA.out.lt g hg).1))
    have HR3 := hid (show IntRow w3 (some ⟨b, o, none⟩) L from fun i h => by
     obtain ⟨b', o', e', hlt', c'⟩ := HR2.out i h
     cases e'
     refine ⟨b, o, rfl, Nat.lt_of_lt_of_le hlt' (Nat.le_trans (by simp) hgrow.size), ?_⟩
     have c7 := ((Below.refl w2.heap.size w2).alloc (Nat.le_refl _) (.cells #[.int .i64 (j : Int)] 2)).cell (p := ⟨b, o + i, none⟩) hlt'
     rw [World.cell?_of_block (hgrow.block b (by simp; omega) (fun e => HF.out b b rfl e.symm rfl)), c7]
     exact c')
    have HF3 := hid (show ∀ x y, (Value.slice (some ⟨b, o, none⟩) m c6).ownBlock = some x -> v'.ownBlock = some y -> ¬ y = x from fun x y hx hy => by
     rcases hat with h | h
     ·exact HF.out x y hx (h.symm.trans hy)
     ·rw [h] at hy
      cases hx
      cases hy
      have h9 := (HR2.out q hql)
      obtain ⟨b', o', e', hlt', _⟩ := h9
      cases e'
      simp
      omega)
    clear hown' hgrow hat
    go_wp2_with fail
    go_roundw
    case rel => exact ⟨q + 1, by go_num, by omega, HO3.out, HR3.out, HF3.out, HB3.out⟩
    case measure => simp [intOf]; omega
  ·have hqe : q = m := by omega
   subst hqe
   go_wp2_with fail
   go_ret
   exact ⟨_, rfl, HO.out, HB.out⟩

end Go.Proofs.YtoioiddjbanahaaGreatDoor

namespace Go.Proofs.YtoioiddjbanahaaGreatDoor

open Go.RowKit

def idS : ByteArray := ⟨#[73, 100]⟩

def idLS : ByteArray := ⟨#[97, 98, 99, 100, 101, 102, 103, 104, 105, 106, 107, 108, 109, 110, 111, 112, 113, 114, 115, 116, 117, 118, 119, 120, 121, 122, 48, 49, 50, 51, 52, 53, 54, 55, 56, 57]⟩

def idOk (s : ByteArray) : Bool := !decide (s.size = 0) && ofB idLS 12 s

def idAt (ts : List Tk) (k : Nat) : Option ByteArray := (ts[k]?).bind fun t => valF t.attrs idS

theorem idAt_at {ts : List Tk} {k : Nat} (h : k < ts.length) : idAt ts k = valF ts[k].attrs idS := by
 unfold idAt
 rw [List.getElem?_eq_getElem h]
 rfl

def idsTo (ts : List Tk) (e : Nat) : List ByteArray := (List.range e).filterMap (idAt ts)

theorem idsTo_next (ts : List Tk) (e : Nat) : idsTo ts (e + 1) = idsTo ts e ++ (idAt ts e).toList := by
 unfold idsTo
 rw [List.range_succ, List.filterMap_append]
 cases h : idAt ts e with
 | none => rw [List.filterMap_cons_none h]; rfl
 | some v => rw [List.filterMap_cons_some h]; rfl

theorem idsTo_none {ts : List Tk} {e : Nat} (h : idAt ts e = none) : idsTo ts (e + 1) = idsTo ts e := by
 rw [idsTo_next, h]
 exact List.append_nil _

theorem idsTo_some {ts : List Tk} {e : Nat} {v : ByteArray} (h : idAt ts e = some v) : idsTo ts (e + 1) = idsTo ts e ++ [v] := by
 rw [idsTo_next, h]
 rfl

theorem mem_idsTo {ts : List Tk} {e : Nat} {v : ByteArray} : v ∈ idsTo ts e ↔ ∃ k, k < e /\ idAt ts k = some v := by
 unfold idsTo
 rw [List.mem_filterMap]
 exact ⟨fun ⟨k, h, q⟩ => ⟨k, List.mem_range.1 h, q⟩, fun ⟨k, h, q⟩ => ⟨k, List.mem_range.2 h, q⟩⟩

def IdsP (ts : List Tk) (e : Nat) : Prop := (∀ v ∈ idsTo ts e, idOk v = true) /\ (idsTo ts e).Nodup

theorem idsP_zero (ts : List Tk) : IdsP ts 0 := ⟨fun v h => absurd h List.not_mem_nil, List.nodup_nil⟩

theorem idsP_none {ts : List Tk} {e : Nat} (h : idAt ts e = none) (hP : IdsP ts e) : IdsP ts (e + 1) := by
 unfold IdsP
 rw [idsTo_none h]
 exact hP

theorem idsP_some {ts : List Tk} {e : Nat} {v : ByteArray} (h : idAt ts e = some v) (hP : IdsP ts e) (ho : idOk v = true) (hf : ¬ v ∈ idsTo ts e) : IdsP ts (e + 1) := by
 unfold IdsP
 rw [idsTo_some h]
 refine ⟨fun x hx => ?_, ?_⟩
 ·rcases List.mem_append.1 hx with h' | h'
  ·exact hP.1 x h'
  ·rw [List.mem_singleton.1 h']; exact ho
 ·rw [List.nodup_append]
  refine ⟨hP.2, by simp, fun x hx y hy => ?_⟩
  rw [List.mem_singleton.1 hy]
  exact fun e => hf (e ▸ hx)

theorem idsP_step {ts : List Tk} {e : Nat} (h : IdsP ts (e + 1)) : IdsP ts e := by
 unfold IdsP at h
 rw [idsTo_next] at h
 exact ⟨fun v hv => h.1 v (List.mem_append_left _ hv), (List.nodup_append.1 h.2).1⟩

theorem idsP_le {ts : List Tk} {e : Nat} : ∀ n, e <= n -> IdsP ts n -> IdsP ts e
 | 0, h, hP => by
  have : e = 0 := by omega
  subst this
  exact hP
 | n + 1, h, hP => by
  rcases Nat.lt_or_ge n e with h' | h'
  ·have : e = n + 1 := by omega
   subst this
   exact hP
  ·exact idsP_le n h' (idsP_step hP)

theorem idsP_bad {ts : List Tk} {e n : Nat} {v : ByteArray} (h : idAt ts e = some v) (he : e < n) (hb : idOk v = false \/ v ∈ idsTo ts e) : ¬ IdsP ts n := by
 intro hP
 have h1 := idsP_le (e := e + 1) n he hP
 unfold IdsP at h1
 rw [idsTo_some h] at h1
 rcases hb with h' | h'
 ·have := h1.1 v (by simp)
  rw [h'] at this
  cases this
 ·exact (List.nodup_append.1 h1.2).2.2 v h' v (by simp) rfl

noncomputable def idsB (ts : List Tk) : Bool := open Classical in decide (IdsP ts ts.length) && treeB ts

theorem idsB_f {ts : List Tk} (h : ¬ IdsP ts ts.length) : idsB ts = false := by unfold idsB; simp [h]

theorem idsB_is {ts : List Tk} (h : IdsP ts ts.length) : idsB ts = treeB ts := by unfold idsB; simp [h]

theorem idsB_t {ts : List Tk} (h : idsB ts = true) : IdsP ts ts.length /\ treeB ts = true := by
 by_cases q : IdsP ts ts.length
 ·exact ⟨q, by rw [<- idsB_is q]; exact h⟩
 ·rw [idsB_f q] at h; cases h

def findN (ts : List Tk) (id : ByteArray) (n : Nat) : Int := match (List.range n).find? (fun k => decide (idAt ts k = some id)) with | some k => (k : Int) | none => -1

theorem findN_none {ts : List Tk} {id : ByteArray} {n : Nat} (h : ∀ j, j < n -> ¬ idAt ts j = some id) : findN ts id n = -1 := by
 unfold findN
 rw [List.find?_eq_none.2 (fun x hx => by simpa using h x (List.mem_range.1 hx))]

theorem findN_at {ts : List Tk} {id : ByteArray} {n k : Nat} (hk : k < n) (h : ∀ j, j < k -> ¬ idAt ts j = some id) (he : idAt ts k = some id) : findN ts id n = (k : Int) := by
 have e : (List.range n).find? (fun k => decide (idAt ts k = some id)) = some k := by
  rw [List.find?_range_eq_some]
  exact ⟨by simpa using he, List.mem_range.2 hk, fun j hj => by simpa using h j hj⟩
 unfold findN
 rw [e]

noncomputable def idI (ts : List Tk) (x : Int) : ByteArray := if idsB ts = true /\ 0 <= x /\ x < ts.length then (idAt ts x.toNat).getD ByteArray.empty else ByteArray.empty

end Go.Proofs.YtoioiddjbanahaaGreatDoor
