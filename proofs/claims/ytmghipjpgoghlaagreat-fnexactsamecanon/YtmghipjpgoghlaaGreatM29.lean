/- The one way to write it: contracts of the program's Canon, CanonAll and SameCanon. -/
import Derived.Test.YtmghipjpgoghlaaGreatM28
import Derived.Test.YtmghipjpgoghlaaGreatM18
import Derived.Test.YtmghipjpgoghlaaGreatM21
namespace Go.Proofs.YtmghipjpgoghlaaGreat
open Go.RowKit
set_option linter.unusedVariables false
set_option linter.unusedSimpArgs false

theorem cNodeAll (ts : List Tk) (a : Option Addr) (cap : Nat) (but : Int) (hN : NamesP ts) (hz : TksSz 1048576 ts) : ∀ f, NodeC ts a cap but f
  | 0 => fun k sd l2 pl F F2 C C2 w hR hk hf => absurd hf (by omega)
  | f + 1 => cNode1 ts a cap but f (cNodeAll ts a cap but hN hz f) hN hz

theorem cLookupP (a : Option Addr) (cap : Nat) (ts : List Tk) (k : Nat) (w : World) (hR : TkRow w a ts) (hT : TreeP ts) (hk : k < ts.length) (hn : ts.length ≤ 1048576) (hz : TksSz 1048576 ts) (hr : (outAts ts k).all rightB = true) :
    ∃ pl, outAts ts k = (nodeAt ts k).attrs ++ pl ∧ Calls Tryz.prog 37 #[.slice a ts.length cap, .int .i64 (nodeAt ts k).kind] w fun e w' =>
      ∃ F C, e = .returned (.tuple #[.func (.func F) #[] C, .bool true]) ∧ Asks F C w' pl ∧ Below w.heap.size w w' := by
  obtain ⟨h1, h2⟩ := chain_at hT hk
  obtain ⟨r, hc⟩ := chain_head ts k
  have hl : 0 < (chainF ts (k + 1)).length := by rw [hc]; exact Nat.succ_pos _
  have h3 := (h1 0 hl).2.1
  have e0 : (chainF ts (k + 1))[0] = k := by simp [hc]
  rw [e0] at h3
  have ek : (nodeAt ts k).kind = kAt (chainF ts (k + 1)) 1 := by
    rw [← h3, nodeAt_at hk]
    unfold parI
    rw [List.getElem?_eq_getElem hk]
  have h := cLookupC a cap ts _ h1 hn hz ((chainF ts (k + 1)).length - 1) 1 (by omega) w hR
  have eo : outAts ts k = (nodeAt ts k).attrs ++ upAts ts ((chainF ts (k + 1)).drop 1) := by
    unfold outAts
    rw [hc, nodeAt_at hk]
    unfold upAts
    rw [List.flatMap_cons, List.getElem?_eq_getElem hk]
    rfl
  refine ⟨_, eo, ?_⟩
  rw [ek]
  have hr2 : (upAts ts ((chainF ts (k + 1)).drop 1)).all rightB = true := by
    rw [eo, List.all_append, Bool.and_eq_true] at hr
    exact hr.2
  refine h.mono fun e w' ⟨v, he, hv, hb⟩ => ?_
  rw [hr2] at he
  obtain ⟨F, C, rfl, hA⟩ := hv hr2
  exact ⟨F, C, he, hA, hb⟩

set_option maxRecDepth 8000 in
set_option maxHeartbeats 4000000 in
theorem cCanonI (a : Option Addr) (cap : Nat) (ts : List Tk) (x y : Int) (w : World) (hR : TkRow w a ts) (hc : ts.length ≤ cap) (hn : ts.length ≤ 1048576) (hz : TksSz 1048576 ts) :
    Calls Tryz.prog 11 #[.slice a ts.length cap, .int .i64 x, .int .i64 y] w fun e w' => e = .returned (.string (canonI ts x y)) ∧ Below w.heap.size w w' := by
  have CN := hid (cNamesOkI a cap ts w hR hn hz)
  have CE := hid (fun wx (hb : Below w.heap.size w wx) => cElementThere a cap ts x wx (hR.below hb) hn hz)
  have CH := hid (fun wx (hb : Below w.heap.size w wx) => cThere a cap ts y wx (hR.below hb) hn hz)
  cases h1 : namesB ts with
  | false =>
    rw [canonI_no (by unfold canB; rw [h1]; rfl)]
    rw [h1] at CN
    clear hR hz h1 CE CH hc
    generalize ts.length = n at *
    go_enter Tryz.func11, Tryz.ntmps11
    go_wp2_with fail
    refine CN.out.mono ?_
    rintro e w1 ⟨rfl, hb1⟩
    have HB1 := hid hb1
    clear hb1 CN
    go_wp2_with fail
    go_ret
    exact ⟨rfl, HB1.out⟩
  | true =>
    rw [h1] at CN
    cases h2 : elemB ts x with
    | false =>
      rw [canonI_no (by unfold canB; rw [h1, h2]; rfl)]
      rw [h2] at CE
      clear hR hz h1 h2 CH hc
      generalize ts.length = n at *
      go_enter Tryz.func11, Tryz.ntmps11
      go_wp2_with fail
      refine CN.out.mono ?_
      rintro e w1 ⟨rfl, hb1⟩
      have HB1 := hid hb1
      clear hb1 CN
      go_wp2_with fail
      refine (CE.out _ HB1.out).mono ?_
      rintro e w2 ⟨rfl, hb2⟩
      have HB2 := hid (bb HB1.out hb2)
      clear hb2 CE
      go_wp2_with fail
      go_ret
      exact ⟨rfl, HB2.out⟩
    | true =>
      rw [h2] at CE
      by_cases h4 : y = x
      · rw [canonI_no (by unfold canB; rw [h1, h2, decide_eq_true h4]; simp)]
        subst h4
        have hyy : (y == y) = true := by simp
        clear hR hz h1 h2 CH hc
        generalize ts.length = n at *
        go_enter Tryz.func11, Tryz.ntmps11
        go_wp2_with fail
        refine CN.out.mono ?_
        rintro e w1 ⟨rfl, hb1⟩
        have HB1 := hid hb1
        clear hb1 CN
        go_wp2_with fail
        refine (CE.out _ HB1.out).mono ?_
        rintro e w2 ⟨rfl, hb2⟩
        have HB2 := hid (bb HB1.out hb2)
        clear hb2 CE
        go_wp2_with fail
        go_ret
        exact ⟨rfl, HB2.out⟩
      · have hyx : (y == x) = false := by simpa using h4
        have hN : NamesP ts := by
          unfold namesB at h1
          simpa using h1
        obtain ⟨hT, k, rfl, hk⟩ := elemB_t h2
        have hne : ¬ (nodeAt ts k).name.size = 0 := by
          intro q
          unfold elemB at h2
          rw [Bool.and_eq_true] at h2
          have h5 := h2.2
          rw [show ((k : Int).toNat) = k from rfl, nameI_at hk, ← nodeAt_at hk, decide_eq_true q] at h5
          cases h5
        have hr := right_of hN hk hne
        obtain ⟨pl, hpl, _⟩ := cLookupP a cap ts k w hR hT hk hn hz hr
        have hpl2 : ∀ wx, Below w.heap.size w wx → Calls Tryz.prog 37 #[.slice a ts.length cap, .int .i64 (nodeAt ts k).kind] wx fun e w' => ∃ F C, e = .returned (.tuple #[.func (.func F) #[] C, .bool true]) ∧ Asks F C w' pl ∧ Below wx.heap.size wx w' := fun wx hb => by
          obtain ⟨pl', hpl', h⟩ := cLookupP a cap ts k wx (hR.below hb) hT hk hn hz hr
          have e : pl' = pl := by
            rw [hpl] at hpl'
            exact (List.append_cancel_left hpl').symm
          subst e
          exact h
        have CL := hid hpl2
        have hky : ¬ (k : Int) = y := fun e => h4 e.symm
        have CC := hid (fun (F : FuncId) (C : Array Value) wx (hb : Below w.heap.size w wx) (hA : Asks F C wx pl) => cNodeAll ts a cap y hN hz ts.length k [] [] pl F 40 C #[] wx (hR.below hb) hk (by omega) hky hpl saidR_nil hA (cAround wx))
        have CW := hid (fun (X : Nat → Prop) (v : Value) (s : ByteArray) (wx : World) (h : ShAt X wx ts.length v s) => cWritten X ts.length v s wx h)
        obtain ⟨gb, go, aa, ca, rfl, hgb, q0, q1, q2, q3, hra⟩ := hR k hk
        rw [← nodeAt_at hk] at q0
        have hkn : (k : Int) < (ts.length : Int) := by omega
        have HGB := hid hgb
        have HQ0 := hid q0
        by_cases h5 : y = -1
        · rw [canonI_yes (by unfold canB; rw [h1, h2, decide_eq_false h4, decide_eq_true (show -1 ≤ y ∧ y ≤ (ts.length : Int) - 1 by omega)]; rfl), show ((k : Int).toNat) = k from rfl]
          have hd : (y != -1) = false := by simp [h5]
          clear hR hz h1 h2 h4 h5 hT hk hN hne hr hpl hpl2 hky hc hgb q0 q1 q2 q3 hra CH
          generalize canonN ts y ts.length k [] = R at *
          generalize ts.length = n at *
          generalize (nodeAt ts k).kind = tk at *
          go_enter Tryz.func11, Tryz.ntmps11
          go_wp2_with fail
          refine CN.out.mono ?_
          rintro e w1 ⟨rfl, hb1⟩
          have HB1 := hid hb1
          clear hb1 CN
          go_wp2_with fail
          refine (CE.out _ HB1.out).mono ?_
          rintro e w2 ⟨rfl, hb2⟩
          have HB2 := hid (bb HB1.out hb2)
          have q0 := (HB2.out.cell (p := ⟨gb, go + k * 4, none⟩) HGB.out).trans HQ0.out
          clear hb2 CE HB1
          go_wp2_with fail
          refine (CL.out _ HB2.out).mono ?_
          rintro e w3 ⟨F, C, rfl, hA, hb3⟩
          have HB3 := hid (bb HB2.out hb3)
          have HA := hid hA
          clear hb3 hA HB2 q0 CL
          go_wp2_with fail
          refine (CC.out F C _ HB3.out HA.out).mono ?_
          rintro e w4 ⟨v, rfl, hv, hb4⟩
          have HB4 := hid (bb HB3.out hb4)
          have HV := hid (CW.out _ v R w4 hv)
          clear hb4 hv CC CW
          go_wp2_with fail
          refine HV.out.mono ?_
          rintro e w5 ⟨rfl, hb5⟩
          have HB5 := hid (bb HB4.out hb5)
          clear hb5 HV
          go_wp2_with fail
          go_ret
          exact ⟨rfl, HB5.out⟩
        · have hd : (y != -1) = true := by simp [h5]
          cases h6 : hasB ts y with
          | false =>
            have h7 : decide (-1 ≤ y ∧ y ≤ (ts.length : Int) - 1) = false := by
              refine decide_eq_false fun q => ?_
              obtain ⟨m, rfl⟩ : ∃ m : Nat, y = m := ⟨y.toNat, by omega⟩
              rw [has_of hT (by omega)] at h6
              cases h6
            rw [canonI_no (by unfold canB; rw [h1, h2, h7]; rfl)]
            rw [h6] at CH
            clear hR hz h1 h2 h4 h5 h6 h7 hT hk hN hne hr hpl hpl2 hky hc hgb q0 q1 q2 q3 hra CC CW CL
            generalize ts.length = n at *
            go_enter Tryz.func11, Tryz.ntmps11
            go_wp2_with fail
            refine CN.out.mono ?_
            rintro e w1 ⟨rfl, hb1⟩
            have HB1 := hid hb1
            clear hb1 CN
            go_wp2_with fail
            refine (CE.out _ HB1.out).mono ?_
            rintro e w2 ⟨rfl, hb2⟩
            have HB2 := hid (bb HB1.out hb2)
            clear hb2 CE
            go_wp2_with fail
            refine (CH.out _ HB2.out).mono ?_
            rintro e w3 ⟨rfl, hb3⟩
            have HB3 := hid (bb HB2.out hb3)
            clear hb3 CH
            go_wp2_with fail
            go_ret
            exact ⟨rfl, HB3.out⟩
          | true =>
            obtain ⟨_, m, hm, hml⟩ := hasB_t h6
            rw [canonI_yes (by unfold canB; rw [h1, h2, decide_eq_false h4, decide_eq_true (show -1 ≤ y ∧ y ≤ (ts.length : Int) - 1 by omega)]; rfl), show ((k : Int).toNat) = k from rfl]
            rw [h6] at CH
            clear hR hz h1 h2 h4 h5 h6 hm hml hT hk hN hne hr hpl hpl2 hky hc hgb q0 q1 q2 q3 hra
            generalize canonN ts y ts.length k [] = R at *
            generalize ts.length = n at *
            generalize (nodeAt ts k).kind = tk at *
            go_enter Tryz.func11, Tryz.ntmps11
            go_wp2_with fail
            refine CN.out.mono ?_
            rintro e w1 ⟨rfl, hb1⟩
            have HB1 := hid hb1
            clear hb1 CN
            go_wp2_with fail
            refine (CE.out _ HB1.out).mono ?_
            rintro e w2 ⟨rfl, hb2⟩
            have HB2 := hid (bb HB1.out hb2)
            clear hb2 CE HB1
            go_wp2_with fail
            refine (CH.out _ HB2.out).mono ?_
            rintro e w6 ⟨rfl, hb6⟩
            have HB6 := hid (bb HB2.out hb6)
            have q0 := (HB6.out.cell (p := ⟨gb, go + k * 4, none⟩) HGB.out).trans HQ0.out
            clear hb6 CH HB2
            go_wp2_with fail
            refine (CL.out _ HB6.out).mono ?_
            rintro e w3 ⟨F, C, rfl, hA, hb3⟩
            have HB3 := hid (bb HB6.out hb3)
            have HA := hid hA
            clear hb3 hA HB6 q0 CL
            go_wp2_with fail
            refine (CC.out F C _ HB3.out HA.out).mono ?_
            rintro e w4 ⟨v, rfl, hv, hb4⟩
            have HB4 := hid (bb HB3.out hb4)
            have HV := hid (CW.out _ v R w4 hv)
            clear hb4 hv CC CW
            go_wp2_with fail
            refine HV.out.mono ?_
            rintro e w5 ⟨rfl, hb5⟩
            have HB5 := hid (bb HB4.out hb5)
            clear hb5 HV
            go_wp2_with fail
            go_ret
            exact ⟨rfl, HB5.out⟩

set_option maxHeartbeats 2000000 in
theorem cCanonAllI (a : Option Addr) (cap : Nat) (ts : List Tk) (w : World) (hR : TkRow w a ts) (hc : ts.length ≤ cap) (hn : ts.length ≤ 1048576) (hz : TksSz 1048576 ts) :
    Calls Tryz.prog 14 #[.slice a ts.length cap] w fun e w' => e = .returned (.string (canonI ts 0 (-1))) ∧ Below w.heap.size w w' := by
  have C := hid (cCanonI a cap ts 0 (-1) w hR hc hn hz)
  clear hR hz hc
  generalize canonI ts 0 (-1) = R at *
  generalize ts.length = n at *
  go_enter Tryz.func14, Tryz.ntmps14
  go_wp2_with fail
  refine C.out.mono ?_
  rintro e w1 ⟨rfl, hb1⟩
  have HB1 := hid hb1
  clear hb1 C
  go_wp2_with fail
  go_ret
  exact ⟨rfl, HB1.out⟩

set_option maxRecDepth 4000 in
set_option maxHeartbeats 4000000 in
theorem cSameCanonI (a a2 : Option Addr) (cap cap2 : Nat) (ts us : List Tk) (w : World) (hR : TkRow w a ts) (hR2 : TkRow w a2 us) (hc : ts.length ≤ cap) (hc2 : us.length ≤ cap2) (hn : ts.length ≤ 1048576) (hn2 : us.length ≤ 1048576) (hz : TksSz 1048576 ts) (hz2 : TksSz 1048576 us) :
    Calls Tryz.prog 21 #[.slice a ts.length cap, .slice a2 us.length cap2] w fun e w' => e = .returned (.bool (sameC ts us)) ∧ Below w.heap.size w w' := by
  have CN := hid (cNamesOkI a cap ts w hR hn hz)
  have CN2 := hid (fun wx (hb : Below w.heap.size w wx) => cNamesOkI a2 cap2 us wx (hR2.below hb) hn2 hz2)
  have CA := hid (fun wx (hb : Below w.heap.size w wx) => cCanonAllI a cap ts wx (hR.below hb) hc hn hz)
  have CA2 := hid (fun wx (hb : Below w.heap.size w wx) => cCanonAllI a2 cap2 us wx (hR2.below hb) hc2 hn2 hz2)
  have HSM := hid (show sameC ts us = (namesB ts && (namesB us && ((canonI ts 0 (-1)).toList == (canonI us 0 (-1)).toList))) by unfold sameC; rw [str_beq])
  rw [HSM.out]
  clear hR hR2 hz hz2 HSM hc hc2
  generalize canonI ts 0 (-1) = R1 at *
  generalize canonI us 0 (-1) = R2 at *
  generalize namesB ts = N1 at *
  generalize namesB us = N2 at *
  generalize ts.length = n at *
  generalize us.length = n2 at *
  cases N1 with
  | false =>
    clear CN2 CA CA2
    go_enter Tryz.func21, Tryz.ntmps21
    go_wp2_with fail
    refine CN.out.mono ?_
    rintro e w1 ⟨rfl, hb1⟩
    have HB1 := hid hb1
    clear hb1 CN
    go_wp2_with fail
    go_ret
    exact ⟨rfl, HB1.out⟩
  | true =>
    cases N2 with
    | false =>
      clear CA CA2
      go_enter Tryz.func21, Tryz.ntmps21
      go_wp2_with fail
      refine CN.out.mono ?_
      rintro e w1 ⟨rfl, hb1⟩
      have HB1 := hid hb1
      clear hb1 CN
      go_wp2_with fail
      refine (CN2.out _ HB1.out).mono ?_
      rintro e w2 ⟨rfl, hb2⟩
      have HB2 := hid (bb HB1.out hb2)
      clear hb2 CN2
      go_wp2_with fail
      go_ret
      exact ⟨rfl, HB2.out⟩
    | true =>
      go_enter Tryz.func21, Tryz.ntmps21
      go_wp2_with fail
      refine CN.out.mono ?_
      rintro e w1 ⟨rfl, hb1⟩
      have HB1 := hid hb1
      clear hb1 CN
      go_wp2_with fail
      refine (CN2.out _ HB1.out).mono ?_
      rintro e w2 ⟨rfl, hb2⟩
      have HB2 := hid (bb HB1.out hb2)
      clear hb2 CN2
      go_wp2_with fail
      refine (CA.out _ HB2.out).mono ?_
      rintro e w3 ⟨rfl, hb3⟩
      have HB3 := hid (bb HB2.out hb3)
      clear hb3 CA
      go_wp2_with fail
      refine (CA2.out _ HB3.out).mono ?_
      rintro e w4 ⟨rfl, hb4⟩
      have HB4 := hid (bb HB3.out hb4)
      clear hb4 CA2
      go_wp2_with fail
      go_ret
      exact ⟨rfl, HB4.out⟩

end Go.Proofs.YtmghipjpgoghlaaGreat
