/- The one way to write it: contracts of the program's Canon, CanonAll and SameCanon. Contracts of the draws of a great number below another; the bytes that a draw is made of. The law FnElsewhere, walked. -/
import Derived.Test.YtmghipjpgoghlaaGreatM30
import Derived.Test.YtmghipjpgoghlaaGreatM35
import Derived.Test.YtmghipjpgoghlaaGreatM29
import Derived.Test.YtmghipjpgoghlaaGreatM19
import Derived.Test.YtmghipjpgoghlaaGreatRows
import Derived.Test.YtmghipjpgoghlaaGreatM1
import Derived.Test.YtmghipjpgoghlaaGreatM31
import Derived.OpenShut
import Derived.WalkKit
import Derived.Maps.AppendAt
namespace Go.Proofs.YtmghipjpgoghlaaGreat
open Go.RowKit
set_option linter.unusedVariables false
set_option linter.unusedSimpArgs false

theorem cNodeAll (ts : List Tk) (a : Option Addr) (cap : Nat) (but : Int) (hN : NamesP ts) (hz : TksSz 1048576 ts) : ∀ f, NodeC ts a cap but f
  | 0 => fun k sd l2 pl F F2 C C2 w hR hk hf => absurd hf (by omega)
  | f + 1 => cNode1 ts a cap but f (cNodeAll ts a cap but hN hz f) hN hz

theorem cLookupP (a : Option Addr) (cap : Nat) (ts : List Tk) (k : Nat) (w : World) (hR : TkRow w a ts) (hT : TreeP ts) (hk : k < ts.length) (hn : ts.length ≤ 1048576) (hz : TksSz 1048576 ts) (hr : (outAts ts k).all rightB = true) :
    ∃ pl, outAts ts k = (nodeAt ts k).attrs ++ pl ∧ Calls Tryz.prog 37 #[.slice a ts.length cap, .int .i64 (nodeAt ts k).kind] w fun e w' =>
      ∃ F C, e = .returned (.tuple #[.func (.func F) #[] C, .bool true]) ∧ Asks F C w' pl ∧ Below w.heap.size w w' := by
  obtain ⟨h1, h2⟩ := chain_at hT hk
  obtain ⟨r, hc⟩ := chain_head ts k
  have hl : 0 < (chainF ts (k + 1)).length := by rw [hc]; exact Nat.succ_pos _
  have h3 := (h1 0 hl).2.1
  have e0 : (chainF ts (k + 1))[0] = k := by simp [hc]
  rw [e0] at h3
  have ek : (nodeAt ts k).kind = kAt (chainF ts (k + 1)) 1 := by
    rw [← h3, nodeAt_at hk]
    unfold parI
    rw [List.getElem?_eq_getElem hk]
  have h := cLookupC a cap ts _ h1 hn hz ((chainF ts (k + 1)).length - 1) 1 (by omega) w hR
  have eo : outAts ts k = (nodeAt ts k).attrs ++ upAts ts ((chainF ts (k + 1)).drop 1) := by
    unfold outAts
    rw [hc, nodeAt_at hk]
    unfold upAts
    rw [List.flatMap_cons, List.getElem?_eq_getElem hk]
    rfl
  refine ⟨_, eo, ?_⟩
  rw [ek]
  have hr2 : (upAts ts ((chainF ts (k + 1)).drop 1)).all rightB = true := by
    rw [eo, List.all_append, Bool.and_eq_true] at hr
    exact hr.2
  refine h.mono fun e w' ⟨v, he, hv, hb⟩ => ?_
  rw [hr2] at he
  obtain ⟨F, C, rfl, hA⟩ := hv hr2
  exact ⟨F, C, he, hA, hb⟩

set_option maxRecDepth 8000 in
set_option maxHeartbeats 4000000 in
theorem cCanonJ (a : Option Addr) (cap : Nat) (ts : List Tk) (x y : Int) (w : World) (hR : TkRow w a ts) (hn : ts.length ≤ 1048576) (hz : TksSz 1048576 ts) :
    Calls Tryz.prog 11 #[.slice a ts.length cap, .int .i64 x, .int .i64 y] w fun e w' => e = .returned (.string (canonI ts x y)) ∧ Below w.heap.size w w' := by
  have CN := hid (cNamesOkI a cap ts w hR hn hz)
  have CE := hid (fun wx (hb : Below w.heap.size w wx) => cElementThere a cap ts x wx (hR.below hb) hn hz)
  have CH := hid (fun wx (hb : Below w.heap.size w wx) => cThere a cap ts y wx (hR.below hb) hn hz)
  cases h1 : namesB ts with
  | false =>
    rw [canonI_no (by unfold canB; rw [h1]; rfl)]
    rw [h1] at CN
    clear hR hz h1 CE CH
    generalize ts.length = n at *
    go_enter Tryz.func11, Tryz.ntmps11
    go_wp2_with fail
    refine CN.out.mono ?_
    rintro e w1 ⟨rfl, hb1⟩
    have HB1 := hid hb1
    clear hb1 CN
    go_wp2_with fail
    go_ret
    exact ⟨rfl, HB1.out⟩
  | true =>
    rw [h1] at CN
    cases h2 : elemB ts x with
    | false =>
      rw [canonI_no (by unfold canB; rw [h1, h2]; rfl)]
      rw [h2] at CE
      clear hR hz h1 h2 CH
      generalize ts.length = n at *
      go_enter Tryz.func11, Tryz.ntmps11
      go_wp2_with fail
      refine CN.out.mono ?_
      rintro e w1 ⟨rfl, hb1⟩
      have HB1 := hid hb1
      clear hb1 CN
      go_wp2_with fail
      refine (CE.out _ HB1.out).mono ?_
      rintro e w2 ⟨rfl, hb2⟩
      have HB2 := hid (bb HB1.out hb2)
      clear hb2 CE
      go_wp2_with fail
      go_ret
      exact ⟨rfl, HB2.out⟩
    | true =>
      rw [h2] at CE
      by_cases h4 : y = x
      · rw [canonI_no (by unfold canB; rw [h1, h2, decide_eq_true h4]; simp)]
        subst h4
        have hyy : (y == y) = true := by simp
        clear hR hz h1 h2 CH
        generalize ts.length = n at *
        go_enter Tryz.func11, Tryz.ntmps11
        go_wp2_with fail
        refine CN.out.mono ?_
        rintro e w1 ⟨rfl, hb1⟩
        have HB1 := hid hb1
        clear hb1 CN
        go_wp2_with fail
        refine (CE.out _ HB1.out).mono ?_
        rintro e w2 ⟨rfl, hb2⟩
        have HB2 := hid (bb HB1.out hb2)
        clear hb2 CE
        go_wp2_with fail
        go_ret
        exact ⟨rfl, HB2.out⟩
      · have hyx : (y == x) = false := by simpa using h4
        have hN : NamesP ts := by
          unfold namesB at h1
          simpa using h1
        obtain ⟨hT, k, rfl, hk⟩ := elemB_t h2
        have hne : ¬ (nodeAt ts k).name.size = 0 := by
          intro q
          unfold elemB at h2
          rw [Bool.and_eq_true] at h2
          have h5 := h2.2
          rw [show ((k : Int).toNat) = k from rfl, nameI_at hk, ← nodeAt_at hk, decide_eq_true q] at h5
          cases h5
        have hr := right_of hN hk hne
        obtain ⟨pl, hpl, _⟩ := cLookupP a cap ts k w hR hT hk hn hz hr
        have hpl2 : ∀ wx, Below w.heap.size w wx → Calls Tryz.prog 37 #[.slice a ts.length cap, .int .i64 (nodeAt ts k).kind] wx fun e w' => ∃ F C, e = .returned (.tuple #[.func (.func F) #[] C, .bool true]) ∧ Asks F C w' pl ∧ Below wx.heap.size wx w' := fun wx hb => by
          obtain ⟨pl', hpl', h⟩ := cLookupP a cap ts k wx (hR.below hb) hT hk hn hz hr
          have e : pl' = pl := by
            rw [hpl] at hpl'
            exact (List.append_cancel_left hpl').symm
          subst e
          exact h
        have CL := hid hpl2
        have hky : ¬ (k : Int) = y := fun e => h4 e.symm
        have CC := hid (fun (F : FuncId) (C : Array Value) wx (hb : Below w.heap.size w wx) (hA : Asks F C wx pl) => cNodeAll ts a cap y hN hz ts.length k [] [] pl F 40 C #[] wx (hR.below hb) hk (by omega) hky hpl saidR_nil hA (cAround wx))
        have CW := hid (fun (X : Nat → Prop) (v : Value) (s : ByteArray) (wx : World) (h : ShAt X wx ts.length v s) => cWritten X ts.length v s wx h)
        obtain ⟨gb, go, aa, ca, rfl, hgb, q0, q1, q2, q3, hra⟩ := hR k hk
        rw [← nodeAt_at hk] at q0
        have hkn : (k : Int) < (ts.length : Int) := by omega
        have HGB := hid hgb
        have HQ0 := hid q0
        by_cases h5 : y = -1
        · rw [canonI_yes (by unfold canB; rw [h1, h2, decide_eq_false h4, decide_eq_true (show -1 ≤ y ∧ y ≤ (ts.length : Int) - 1 by omega)]; rfl), show ((k : Int).toNat) = k from rfl]
          have hd : (y != -1) = false := by simp [h5]
          clear hR hz h1 h2 h4 h5 hT hk hN hne hr hpl hpl2 hky hgb q0 q1 q2 q3 hra CH
          generalize canonN ts y ts.length k [] = R at *
          generalize ts.length = n at *
          generalize (nodeAt ts k).kind = tk at *
          go_enter Tryz.func11, Tryz.ntmps11
          go_wp2_with fail
          refine CN.out.mono ?_
          rintro e w1 ⟨rfl, hb1⟩
          have HB1 := hid hb1
          clear hb1 CN
          go_wp2_with fail
          refine (CE.out _ HB1.out).mono ?_
          rintro e w2 ⟨rfl, hb2⟩
          have HB2 := hid (bb HB1.out hb2)
          have q0 := (HB2.out.cell (p := ⟨gb, go + k * 4, none⟩) HGB.out).trans HQ0.out
          clear hb2 CE HB1
          go_wp2_with fail
          refine (CL.out _ HB2.out).mono ?_
          rintro e w3 ⟨F, C, rfl, hA, hb3⟩
          have HB3 := hid (bb HB2.out hb3)
          have HA := hid hA
          clear hb3 hA HB2 q0 CL
          go_wp2_with fail
          refine (CC.out F C _ HB3.out HA.out).mono ?_
          rintro e w4 ⟨v, rfl, hv, hb4⟩
          have HB4 := hid (bb HB3.out hb4)
          have HV := hid (CW.out _ v R w4 hv)
          clear hb4 hv CC CW
          go_wp2_with fail
          refine HV.out.mono ?_
          rintro e w5 ⟨rfl, hb5⟩
          have HB5 := hid (bb HB4.out hb5)
          clear hb5 HV
          go_wp2_with fail
          go_ret
          exact ⟨rfl, HB5.out⟩
        · have hd : (y != -1) = true := by simp [h5]
          cases h6 : hasB ts y with
          | false =>
            have h7 : decide (-1 ≤ y ∧ y ≤ (ts.length : Int) - 1) = false := by
              refine decide_eq_false fun q => ?_
              obtain ⟨m, rfl⟩ : ∃ m : Nat, y = m := ⟨y.toNat, by omega⟩
              rw [has_of hT (by omega)] at h6
              cases h6
            rw [canonI_no (by unfold canB; rw [h1, h2, h7]; rfl)]
            rw [h6] at CH
            clear hR hz h1 h2 h4 h5 h6 h7 hT hk hN hne hr hpl hpl2 hky hgb q0 q1 q2 q3 hra CC CW CL
            generalize ts.length = n at *
            go_enter Tryz.func11, Tryz.ntmps11
            go_wp2_with fail
            refine CN.out.mono ?_
            rintro e w1 ⟨rfl, hb1⟩
            have HB1 := hid hb1
            clear hb1 CN
            go_wp2_with fail
            refine (CE.out _ HB1.out).mono ?_
            rintro e w2 ⟨rfl, hb2⟩
            have HB2 := hid (bb HB1.out hb2)
            clear hb2 CE
            go_wp2_with fail
            refine (CH.out _ HB2.out).mono ?_
            rintro e w3 ⟨rfl, hb3⟩
            have HB3 := hid (bb HB2.out hb3)
            clear hb3 CH
            go_wp2_with fail
            go_ret
            exact ⟨rfl, HB3.out⟩
          | true =>
            obtain ⟨_, m, hm, hml⟩ := hasB_t h6
            rw [canonI_yes (by unfold canB; rw [h1, h2, decide_eq_false h4, decide_eq_true (show -1 ≤ y ∧ y ≤ (ts.length : Int) - 1 by omega)]; rfl), show ((k : Int).toNat) = k from rfl]
            rw [h6] at CH
            clear hR hz h1 h2 h4 h5 h6 hm hml hT hk hN hne hr hpl hpl2 hky hgb q0 q1 q2 q3 hra
            generalize canonN ts y ts.length k [] = R at *
            generalize ts.length = n at *
            generalize (nodeAt ts k).kind = tk at *
            go_enter Tryz.func11, Tryz.ntmps11
            go_wp2_with fail
            refine CN.out.mono ?_
            rintro e w1 ⟨rfl, hb1⟩
            have HB1 := hid hb1
            clear hb1 CN
            go_wp2_with fail
            refine (CE.out _ HB1.out).mono ?_
            rintro e w2 ⟨rfl, hb2⟩
            have HB2 := hid (bb HB1.out hb2)
            clear hb2 CE HB1
            go_wp2_with fail
            refine (CH.out _ HB2.out).mono ?_
            rintro e w6 ⟨rfl, hb6⟩
            have HB6 := hid (bb HB2.out hb6)
            have q0 := (HB6.out.cell (p := ⟨gb, go + k * 4, none⟩) HGB.out).trans HQ0.out
            clear hb6 CH HB2
            go_wp2_with fail
            refine (CL.out _ HB6.out).mono ?_
            rintro e w3 ⟨F, C, rfl, hA, hb3⟩
            have HB3 := hid (bb HB6.out hb3)
            have HA := hid hA
            clear hb3 hA HB6 q0 CL
            go_wp2_with fail
            refine (CC.out F C _ HB3.out HA.out).mono ?_
            rintro e w4 ⟨v, rfl, hv, hb4⟩
            have HB4 := hid (bb HB3.out hb4)
            have HV := hid (CW.out _ v R w4 hv)
            clear hb4 hv CC CW
            go_wp2_with fail
            refine HV.out.mono ?_
            rintro e w5 ⟨rfl, hb5⟩
            have HB5 := hid (bb HB4.out hb5)
            clear hb5 HV
            go_wp2_with fail
            go_ret
            exact ⟨rfl, HB5.out⟩

theorem cCanonI (a : Option Addr) (cap : Nat) (ts : List Tk) (x y : Int) (w : World) (hR : TkRow w a ts) (hc : ts.length ≤ cap) (hn : ts.length ≤ 1048576) (hz : TksSz 1048576 ts) :
    Calls Tryz.prog 11 #[.slice a ts.length cap, .int .i64 x, .int .i64 y] w fun e w' => e = .returned (.string (canonI ts x y)) ∧ Below w.heap.size w w' := cCanonJ a cap ts x y w hR hn hz

set_option maxHeartbeats 2000000 in
theorem cCanonAllI (a : Option Addr) (cap : Nat) (ts : List Tk) (w : World) (hR : TkRow w a ts) (hc : ts.length ≤ cap) (hn : ts.length ≤ 1048576) (hz : TksSz 1048576 ts) :
    Calls Tryz.prog 14 #[.slice a ts.length cap] w fun e w' => e = .returned (.string (canonI ts 0 (-1))) ∧ Below w.heap.size w w' := by
  have C := hid (cCanonI a cap ts 0 (-1) w hR hc hn hz)
  clear hR hz hc
  generalize canonI ts 0 (-1) = R at *
  generalize ts.length = n at *
  go_enter Tryz.func14, Tryz.ntmps14
  go_wp2_with fail
  refine C.out.mono ?_
  rintro e w1 ⟨rfl, hb1⟩
  have HB1 := hid hb1
  clear hb1 C
  go_wp2_with fail
  go_ret
  exact ⟨rfl, HB1.out⟩

set_option maxRecDepth 4000 in
set_option maxHeartbeats 4000000 in
theorem cSameCanonI (a a2 : Option Addr) (cap cap2 : Nat) (ts us : List Tk) (w : World) (hR : TkRow w a ts) (hR2 : TkRow w a2 us) (hc : ts.length ≤ cap) (hc2 : us.length ≤ cap2) (hn : ts.length ≤ 1048576) (hn2 : us.length ≤ 1048576) (hz : TksSz 1048576 ts) (hz2 : TksSz 1048576 us) :
    Calls Tryz.prog 21 #[.slice a ts.length cap, .slice a2 us.length cap2] w fun e w' => e = .returned (.bool (sameC ts us)) ∧ Below w.heap.size w w' := by
  have CN := hid (cNamesOkI a cap ts w hR hn hz)
  have CN2 := hid (fun wx (hb : Below w.heap.size w wx) => cNamesOkI a2 cap2 us wx (hR2.below hb) hn2 hz2)
  have CA := hid (fun wx (hb : Below w.heap.size w wx) => cCanonAllI a cap ts wx (hR.below hb) hc hn hz)
  have CA2 := hid (fun wx (hb : Below w.heap.size w wx) => cCanonAllI a2 cap2 us wx (hR2.below hb) hc2 hn2 hz2)
  have HSM := hid (show sameC ts us = (namesB ts && (namesB us && ((canonI ts 0 (-1)).toList == (canonI us 0 (-1)).toList))) by unfold sameC; rw [str_beq])
  rw [HSM.out]
  clear hR hR2 hz hz2 HSM hc hc2
  generalize canonI ts 0 (-1) = R1 at *
  generalize canonI us 0 (-1) = R2 at *
  generalize namesB ts = N1 at *
  generalize namesB us = N2 at *
  generalize ts.length = n at *
  generalize us.length = n2 at *
  cases N1 with
  | false =>
    clear CN2 CA CA2
    go_enter Tryz.func21, Tryz.ntmps21
    go_wp2_with fail
    refine CN.out.mono ?_
    rintro e w1 ⟨rfl, hb1⟩
    have HB1 := hid hb1
    clear hb1 CN
    go_wp2_with fail
    go_ret
    exact ⟨rfl, HB1.out⟩
  | true =>
    cases N2 with
    | false =>
      clear CA CA2
      go_enter Tryz.func21, Tryz.ntmps21
      go_wp2_with fail
      refine CN.out.mono ?_
      rintro e w1 ⟨rfl, hb1⟩
      have HB1 := hid hb1
      clear hb1 CN
      go_wp2_with fail
      refine (CN2.out _ HB1.out).mono ?_
      rintro e w2 ⟨rfl, hb2⟩
      have HB2 := hid (bb HB1.out hb2)
      clear hb2 CN2
      go_wp2_with fail
      go_ret
      exact ⟨rfl, HB2.out⟩
    | true =>
      go_enter Tryz.func21, Tryz.ntmps21
      go_wp2_with fail
      refine CN.out.mono ?_
      rintro e w1 ⟨rfl, hb1⟩
      have HB1 := hid hb1
      clear hb1 CN
      go_wp2_with fail
      refine (CN2.out _ HB1.out).mono ?_
      rintro e w2 ⟨rfl, hb2⟩
      have HB2 := hid (bb HB1.out hb2)
      clear hb2 CN2
      go_wp2_with fail
      refine (CA.out _ HB2.out).mono ?_
      rintro e w3 ⟨rfl, hb3⟩
      have HB3 := hid (bb HB2.out hb3)
      clear hb3 CA
      go_wp2_with fail
      refine (CA2.out _ HB3.out).mono ?_
      rintro e w4 ⟨rfl, hb4⟩
      have HB4 := hid (bb HB3.out hb4)
      clear hb4 CA2
      go_wp2_with fail
      go_ret
      exact ⟨rfl, HB4.out⟩

end Go.Proofs.YtmghipjpgoghlaaGreat

namespace Go.Proofs.YtmghipjpgoghlaaGreat
open Go.RowKit
set_option linter.unusedVariables false
set_option linter.unusedSimpArgs false

theorem code_of {w : World} {a : Option Addr} {len cap : Nat} {zs : List Int}
    (h : (a = none ∧ len = 0 ∧ cap = 0 ∧ zs = []) ∨ ∃ x, a = some x ∧ len ≤ cap ∧ cap ≤ maxLen ∧ zs.length = cap ∧ (∀ i, i < zs.length → w.cell? (x.add i) = some (.int .u8 (zs.getD i 0))) ∧ ∀ n ∈ zs, (Lit.int .u8 n).wf = true) : CodeRow w a len := by
  rcases h with ⟨_, h, _⟩ | ⟨x, rfl, hl, _, hz, hc, _⟩
  · exact .inl h
  · by_cases h0 : len = 0
    · exact .inl h0
    · obtain ⟨cb, co, rfl, hcells⟩ := ints_at hc (by omega)
      refine .inr ⟨cb, co, fun j => zs.getD j 0, rfl, ?_, fun j hj => hcells j (by omega)⟩
      have h1 := hcells 0 (by omega)
      rcases Nat.lt_or_ge cb w.heap.size with h' | h'
      · exact h'
      · simp [World.cell?, Array.getElem?_eq_none h'] at h1

theorem code_below {w w2 : World} {a : Option Addr} {len : Nat} (h : CodeRow w a len) (hb : Below w.heap.size w w2) : CodeRow w2 a len := by
  rcases h with h | ⟨cb, co, z, h1, h2, h3⟩
  · exact .inl h
  · exact .inr ⟨cb, co, z, h1, Nat.lt_of_lt_of_le h2 hb.size, fun j hj => (hb.cell (p := ⟨cb, co + j, none⟩) h2).trans (h3 j hj)⟩

theorem bt {w a b : World} (h : Below w.heap.size w a) (k : Below a.heap.size a b) : Below w.heap.size w b := h.trans (k.mono h.size)

theorem cBig_no (a : Option Addr) (len cap : Nat) (w : World) (h : len ≤ 4096) : Calls Tryz.prog 9 #[.slice a len cap] w fun e w' => e = .returned (.bool false) ∧ w' = w := by
  have h1 : decide ((4096 : Int) < (len : Int)) = false := by simp; omega
  go_enter Tryz.func9, Tryz.ntmps9
  go_wp2
  go_ret
  exact ⟨rfl, rfl⟩

theorem cBig_yes (a : Option Addr) (len cap : Nat) (w : World) (h : ¬ len ≤ 4096) : Calls Tryz.prog 9 #[.slice a len cap] w fun e w' => e = .returned (.bool true) ∧ w' = w := by
  have h1 : decide ((4096 : Int) < (len : Int)) = true := by simp; omega
  go_enter Tryz.func9, Tryz.ntmps9
  go_wp2
  go_ret
  exact ⟨rfl, rfl⟩

theorem four_wrap (x y z u : Int) (hx : 0 ≤ x ∧ x ≤ 255) (hy : 0 ≤ y ∧ y ≤ 255) (hz : 0 ≤ z ∧ z ≤ 255) (hu : 0 ≤ u ∧ u ≤ 255) :
    IntKind.i64.wrap (x * 16777216) = x * 16777216 ∧ IntKind.i64.wrap (y * 65536) = y * 65536 ∧ IntKind.i64.wrap (x * 16777216 + y * 65536) = x * 16777216 + y * 65536 ∧ IntKind.i64.wrap (z * 256) = z * 256
    ∧ IntKind.i64.wrap (x * 16777216 + y * 65536 + z * 256) = x * 16777216 + y * 65536 + z * 256 ∧ IntKind.i64.wrap (x * 16777216 + y * 65536 + z * 256 + u) = x * 16777216 + y * 65536 + z * 256 + u := by
  refine ⟨?_, ?_, ?_, ?_, ?_, ?_⟩ <;> exact IntWalk.i64_in _ (by omega)

theorem mod_nat (s : Int) (n : Nat) (h0 : 0 ≤ s) (hn : 1 ≤ n) : s.tmod (n : Int) = ((s.toNat % n : Nat) : Int) ∧ s % (n : Int) = ((s.toNat % n : Nat) : Int) := by
  obtain ⟨k, rfl⟩ : ∃ k : Nat, s = k := ⟨s.toNat, by omega⟩
  refine ⟨?_, ?_⟩
  · rw [Int.tmod_eq_emod_of_nonneg h0]; simp
  · simp

set_option maxHeartbeats 2000000 in
/-- A number below n, which is greater than 256. -/
theorem cBelowBig (n : Nat) (w0 : World) (a : Option Addr) (len cap b : Nat) (w : World) (hlen : len ≤ 4096) (hcr : CodeRow w0 a len) (hC : Cur w0 a len cap b w) (hn0 : 257 ≤ n) (hn1 : n ≤ 4294967296) :
    Calls Tryz.prog 61 #[.pointer (some ⟨b, 0, none⟩), .int .i64 n] w fun e w' => ∃ x : Nat, e = .returned (.int .i64 x) ∧ x < n ∧ Cur w0 a len cap b w' ∧ w.grownBy w' (some b) := by
  have HR : Hid (CodeRow w0 a len) := hcr
  have HC : Hid (Cur w0 a len cap b w) := hC
  clear hC hcr
  have hz : ¬ (n : Int) = 0 := by omega
  have d1 : decide ((n : Int) ≤ 0) = false := by simp; omega
  have d2 : decide ((n : Int) ≤ 256) = false := by simp; omega
  go_enter Tryz.func61, Tryz.ntmps61
  go_wp2_with fail
  refine (cByte w0 a len cap b _ hlen HR.out HC.out).mono ?_
  rintro e w1 ⟨x, rfl, hx0, hx1, hC1, hg1⟩
  have HC1 : Hid (Cur w0 a len cap b w1) := hC1
  have HG : Hid (w.grownBy w1 (some b)) := hg1
  clear hC1 hg1
  go_wp2_with fail
  refine (cByte w0 a len cap b _ hlen HR.out HC1.out).mono ?_
  rintro e w2 ⟨y, rfl, hy0, hy1, hC2, hg2⟩
  have HC2 : Hid (Cur w0 a len cap b w2) := hC2
  have HG2 : Hid (w.grownBy w2 (some b)) := gtrans HG.out hg2
  clear hC2 hg2
  go_wp2_with fail
  refine (cByte w0 a len cap b _ hlen HR.out HC2.out).mono ?_
  rintro e w3 ⟨z, rfl, hz0, hz1, hC3, hg3⟩
  have HC3 : Hid (Cur w0 a len cap b w3) := hC3
  have HG3 : Hid (w.grownBy w3 (some b)) := gtrans HG2.out hg3
  clear hC3 hg3
  go_wp2_with fail
  refine (cByte w0 a len cap b _ hlen HR.out HC3.out).mono ?_
  rintro e w4 ⟨u, rfl, hu0, hu1, hC4, hg4⟩
  have HC4 : Hid (Cur w0 a len cap b w4) := hC4
  have HG4 : Hid (w.grownBy w4 (some b)) := gtrans HG3.out hg4
  clear hC4 hg4
  obtain ⟨k1, k2, k3, k4, k5, k6⟩ := four_wrap x y z u ⟨hx0, hx1⟩ ⟨hy0, hy1⟩ ⟨hz0, hz1⟩ ⟨hu0, hu1⟩
  obtain ⟨s, hs⟩ : ∃ s : Int, x * 16777216 + y * 65536 + z * 256 + u = s := ⟨_, rfl⟩
  have hs0 : 0 ≤ s := by omega
  rw [hs] at k6
  obtain ⟨m1, m2⟩ := mod_nat s n hs0 (by omega)
  have hlt : s.toNat % n < n := Nat.mod_lt _ (by omega)
  obtain ⟨r, hr⟩ : ∃ r : Nat, s.toNat % n = r := ⟨_, rfl⟩
  rw [hr] at m1 m2 hlt
  clear hx0 hx1 hy0 hy1 hz0 hz1 hu0 hu1 hr
  go_wp2_with fail
  go_ret
  refine ⟨r, ?_, hlt, HC4.out, HG4.out⟩
  first | rfl | (rw [← m2]; rfl) | (rw [← m1]; rfl) | simp [m1, m2]

end Go.Proofs.YtmghipjpgoghlaaGreat

namespace Go.Proofs.YtmghipjpgoghlaaGreat
open Go.RowKit
set_option linter.unusedVariables false
set_option linter.unusedSimpArgs false

/-- The one that it is grafted under, as it lies in memory while it is made: its attrs in a row of its own. -/
structure RootAt (W0 wr : World) (Rb Pb : Nat) (a8 : Option Addr) (c8 : Nat) (rl : List At) : Prop where
  bel : Below W0.heap.size W0 wr
  root : wr.heap[Rb]? = some (.cells #[.int .i64 (-1), .string rootS, .slice a8 rl.length c8, .string ⟨#[]⟩] 33 (0, 0))
  pre : wr.heap[Pb]? = some (.cells #[.string ⟨#[]⟩, .string pS, .string qS] 9 (0, 0))
  own : wr.ownsRow W0.heap.size 42 2 (.slice a8 rl.length c8) rl.length (atC rl)
  hi : W0.heap.size ≤ Rb

theorem RootAt.below {W0 wr w' : World} {Rb Pb : Nat} {a8 : Option Addr} {c8 : Nat} {rl : List At} (h : RootAt W0 wr Rb Pb a8 c8 rl) (hb : Below wr.heap.size wr w') : RootAt W0 w' Rb Pb a8 c8 rl :=
  ⟨bb h.bel hb, blk_below h.root hb, blk_below h.pre hb, ownsRow_below h.own hb, h.hi⟩

theorem RootAt.start (W0 : World) : RootAt W0 (((W0.alloc (.cells #[] 42)).alloc (.cells #[.int .i64 (-1), .string rootS, .slice (some ⟨W0.heap.size, 0, none⟩) 0 0, .string ⟨#[]⟩] 33)).alloc (.cells #[.string ⟨#[]⟩, .string pS, .string qS] 9)) (W0.heap.size + 1) (W0.heap.size + 2) (some ⟨W0.heap.size, 0, none⟩) 0 [] := by
  have h1 := own_new W0 42 2
  have b1 := (Below.refl W0.heap.size W0).alloc (Nat.le_refl _) (.cells #[] 42)
  have s1 : (W0.alloc (.cells #[] 42)).heap.size = W0.heap.size + 1 := by simp
  have s2 : ((W0.alloc (.cells #[] 42)).alloc (.cells #[.int .i64 (-1), .string rootS, .slice (some ⟨W0.heap.size, 0, none⟩) 0 0, .string ⟨#[]⟩] 33)).heap.size = W0.heap.size + 2 := by simp
  have h2 := heap_alloc_new (W0.alloc (.cells #[] 42)) (.cells #[.int .i64 (-1), .string rootS, .slice (some ⟨W0.heap.size, 0, none⟩) 0 0, .string ⟨#[]⟩] 33)
  have h3 := heap_alloc_new ((W0.alloc (.cells #[] 42)).alloc (.cells #[.int .i64 (-1), .string rootS, .slice (some ⟨W0.heap.size, 0, none⟩) 0 0, .string ⟨#[]⟩] 33)) (.cells #[.string ⟨#[]⟩, .string pS, .string qS] 9)
  rw [s1] at h2
  rw [s2] at h3
  exact ⟨(b1.alloc b1.size _).alloc (by rw [s2]; omega) _, blk_alloc h2 _, h3, (h1.alloc _).alloc _, by omega⟩

theorem own_cells {w : World} {B n s : Nat} {v : Value} {xs : List Value} {E : TypeId} (h : w.ownsRow B E s v n xs) : ∀ k, v.ownBlock = some k → ∃ c, w.heap[k]? = some (.cells c E (0, 0)) := by
  intro k hk
  rcases h.2 with ⟨rfl, _⟩ | ⟨g, cap, cur, rfl, _, hg, _⟩
  · cases hk
  · have : g = k := by simpa [Value.ownBlock] using hk
    subst this
    exact ⟨cur, hg⟩

/-- One more attr, and the one that has them told of the row. -/
theorem RootAt.more {W0 wr w7 : World} {Rb Pb : Nat} {a8 : Option Addr} {c8 : Nat} {rl : List At} {q : At} {v' : Value} (h : RootAt W0 wr Rb Pb a8 c8 rl) (hown : w7.ownsRow W0.heap.size 42 2 v' (rl.length + 1) (atC rl ++ [.string q.name, .string q.value])) (hg : wr.grownBy w7 (Value.slice a8 rl.length c8).ownBlock) :
    ∃ a9 c9, v' = .slice a9 (rl ++ [q]).length c9 ∧ RootAt W0 (w7.setCell ⟨Rb, 2, none⟩ v') Rb Pb a9 c9 (rl ++ [q]) ∧ (w7.cell? ⟨Rb, 2, none⟩).isSome = true ∧ w7.frozen? ⟨Rb, 2, none⟩ = false := by
  obtain ⟨a9, c9, rfl, ho⟩ := ats_more hown
  have hk := own_cells h.own
  have nR : some Rb ≠ (Value.slice a8 rl.length c8).ownBlock := fun e => by
    obtain ⟨c, hc⟩ := hk Rb e.symm
    rw [h.root] at hc
    injection hc with hc
    injection hc with _ hc
    exact absurd hc (by decide)
  have nP : some Pb ≠ (Value.slice a8 rl.length c8).ownBlock := fun e => by
    obtain ⟨c, hc⟩ := hk Pb e.symm
    rw [h.pre] at hc
    injection hc with hc
    injection hc with _ hc
    exact absurd hc (by decide)
  have r7 := (hg.block Rb (lt_of_heap h.root) nR).trans h.root
  have p7 := (hg.block Pb (lt_of_heap h.pre) nP).trans h.pre
  have b7 : Below W0.heap.size W0 w7 := h.bel.grown hg h.bel.size (fun k hk => (h.own.lt k hk).1)
  have nRP : ¬ Rb = Pb := fun e => by
    have := h.root
    rw [e, h.pre] at this
    injection this with this
    injection this with _ this
    exact absurd this (by decide)
  have nG : ∀ k, (Value.slice a9 (rl ++ [q]).length c9).ownBlock = some k → ¬ k = Rb := fun k hk2 e => by
    obtain ⟨c, hc⟩ := own_cells ho k hk2
    rw [e, r7] at hc
    injection hc with hc
    injection hc with _ hc
    exact absurd hc (by decide)
  refine ⟨a9, c9, rfl, ⟨b7.setCell h.hi _, ?_, ?_, ?_, h.hi⟩, ?_, Lib.frozen_of_heap r7 2⟩
  · exact heap_setCell_same w7 Rb 2 _ _ _ r7
  · rw [heap_setCell_other]
    · exact p7
    · exact fun e => nRP e.symm
  · exact own_setCell ho nG _ _
  · rw [Lib.cell_of_heap r7]; rfl
where
  heap_setCell_other {w : World} {g k i : Nat} {v : Value} (h : ¬ k = g) : (w.setCell ⟨g, i, none⟩ v).heap[k]? = w.heap[k]? := by
    have hb := (Below.refl 0 w)
    simp only [World.setCell, Array.getElem?_modify]
    rw [if_neg (fun e => h e.symm)]
  own_setCell {w : World} {B n s : Nat} {v : Value} {xs : List Value} {E : TypeId} {g : Nat} (h : w.ownsRow B E s v n xs) (hne : ∀ k, v.ownBlock = some k → ¬ k = g) (i : Nat) (u : Value) : (w.setCell ⟨g, i, none⟩ u).ownsRow B E s v n xs := by
    refine ⟨h.1, ?_⟩
    rcases h.2 with h' | ⟨g', cap, cur, h1, h2, h3, h4⟩
    · exact .inl h'
    · refine .inr ⟨g', cap, cur, h1, h2, ?_, h4⟩
      have : ¬ g' = g := hne g' (by rw [h1]; rfl)
      simp only [World.setCell, Array.getElem?_modify]
      rw [if_neg (fun e => this e.symm)]
      exact h3

theorem RootAt.row {W0 wr : World} {Rb Pb : Nat} {a8 : Option Addr} {c8 : Nat} {rl : List At} (h : RootAt W0 wr Rb Pb a8 c8 rl) : TkRow wr (some ⟨Rb, 0, none⟩) [⟨-1, rootS, rl, ⟨#[]⟩⟩] := by
  intro j hj
  have : j = 0 := by simpa using hj
  subst this
  obtain ⟨⟨c0, c1, c2, c3⟩, _⟩ := box4 h.root
  exact ⟨Rb, 0, a8, c8, rfl, lt_of_heap h.root, c0, c1, c2, c3, (NewAts.of h.own).row⟩

theorem RootAt.pq {W0 wr : World} {Rb Pb : Nat} {a8 : Option Addr} {c8 : Nat} {rl : List At} (h : RootAt W0 wr Rb Pb a8 c8 rl) {i : Nat} (hi : i < pqL.length) : wr.cell? ⟨Pb, i, none⟩ = some (.string pqL[i]) := by
  rw [Lib.cell_of_heap h.pre]
  match i, hi with
  | 0, _ => rfl
  | 1, _ => rfl
  | 2, _ => rfl

theorem canB_of {ts : List Tk} {x y : Int} (h : ¬ (canonI ts x y).size = 0) : canB ts x y = true := by
  cases q : canB ts x y with
  | true => rfl
  | false => rw [canonI_no q] at h; exact absurd rfl h

theorem meanI_sz {ts : List Tk} (hz : TksSz 1048576 ts) (x : Int) (p : ByteArray) : ((meanI ts x p).getD ⟨#[]⟩).size ≤ 1048576 := by
  unfold meanI
  split
  · exact meanF_sz hz p
  · exact Nat.zero_le _

theorem rl_sz {ts : List Tk} (hz : TksSz 1048576 ts) (x : Int) : AtSz 1048576 (rlA ts x pqL) ∧ (rlA ts x pqL).length ≤ 3 := by
  have one : ∀ q, (rlF ts x q).length ≤ 1 ∧ ∀ y ∈ rlF ts x q, y = ⟨nmD q, (meanI ts x q).getD ⟨#[]⟩⟩ := fun q => by
    unfold rlF
    split
    · exact ⟨Nat.le_refl _, fun y hy => List.mem_singleton.1 hy⟩
    · exact ⟨Nat.zero_le _, fun y hy => absurd hy List.not_mem_nil⟩
  constructor
  · intro y hy
    obtain ⟨q, hq, hy⟩ := List.mem_flatMap.1 hy
    rw [(one q).2 y hy]
    have h1 := preOk_sz (pq_ok q hq)
    have h2 := nmD_size q
    exact ⟨by show (nmD q).size ≤ _; omega, meanI_sz hz x q⟩
  · unfold rlA pqL
    simp only [List.flatMap_cons, List.flatMap_nil, List.length_append, List.length_nil]
    have h1 := (one ⟨#[]⟩).1
    have h2 := (one pS).1
    have h3 := (one qS).1
    omega

theorem sz_bigE {ts : List Tk} (h : TksSz 40 ts) : TksSz 1048576 ts := fun t ht => by
  obtain ⟨h1, h2, h3, h4⟩ := h t ht
  exact ⟨by omega, by omega, fun x hx => ⟨by have := (h3 x hx).1; omega, by have := (h3 x hx).2; omega⟩, by omega⟩

theorem br_sz {ts : List Tk} {k b : Nat} (h : TksSz b ts) : TksSz b (branchL ts k) := segN_sz h _

theorem graft_sz {ts br : List Tk} {x : Int} {b : Nat} (h : TksSz b ts) (h2 : TksSz b br) : TksSz b (graftL ts br x) := by
  unfold graftL
  split
  · split
    · exact put_sz h h2
    · exact h
  · exact fun t ht => absurd ht List.not_mem_nil

theorem graft_len {ts br : List Tk} {x : Int} (h : ts.length ≤ 50) : (graftL ts br x).length ≤ 50 := by
  unfold graftL
  split
  · split
    · rename_i hg
      unfold graftB at hg
      simp only [Bool.and_eq_true] at hg
      have h3 := hg.2.2
      unfold treeB at h3
      have h4 : TreeP (putL ts (endN ts x.toNat) x br) := by simpa using h3
      exact h4.2.1
    · exact h
  · exact Nat.zero_le _

set_option maxRecDepth 8000 in
set_option maxHeartbeats 16000000 in
theorem law_else (a : Option Addr) (len cap : Nat) (w : World) (hcr : CodeRow w a len) :
    Calls Tryz.prog 5 #[.slice a len cap] w fun e w' => e = .returned (.bool true) ∧ Below w.heap.size w w' := by
  by_cases hl : len ≤ 4096
  case neg =>
    have CB := hid (fun wx => cBig_yes a len cap wx hl)
    clear hcr
    go_enter Tryz.func5, Tryz.ntmps5
    go_wp2_with fail
    refine (CB.out _).mono ?_
    rintro e w1 ⟨rfl, rfl⟩
    go_wp2_with fail
    go_ret
    exact ⟨rfl, Below.refl _ _⟩
  have CB := hid (fun wx => cBig_no a len cap wx hl)
  have HCR := hid hcr
  clear hcr
  go_enter Tryz.func5, Tryz.ntmps5
  go_wp2_with fail
  refine (CB.out _).mono ?_
  rintro e w1 ⟨rfl, rfl⟩
  clear CB
  go_wp2_with fail
  refine (cDrawCanon a len cap _ hl HCR.out).mono ?_
  rintro e w2 ⟨a2, c2, ts, x, y, rfl, hr2, hn2, hz2, ⟨hx1, hx2⟩, _, ⟨hc2, hc2m⟩, hb2⟩
  have hzb := sz_bigE hz2
  have HZ := hid hzb
  have HR2 := hid hr2
  have HB2 := hid hb2
  have CI := hid (fun wx (hb : Below w2.heap.size w2 wx) => cCanonJ a2 c2 ts x (-1) wx (hr2.below hb) (by omega) hzb)
  have CS := hid (fun wx (hb : Below w2.heap.size w2 wx) => cCanonS a2 c2 ts x (-1) wx (hr2.below hb) (by omega) hzb)
  have CBR := hid (fun wx (hb : Below w2.heap.size w2 wx) => cBranchS a2 c2 ts x wx (hr2.below hb) (by omega) hzb)
  have CM := hid (fun (p : ByteArray) (hp : p.size ≤ 1048576) wx (hb : Below w2.heap.size w2 wx) => cMeaningS a2 c2 ts x p wx (hr2.below hb) (by omega) hzb hp)
  have HLN := hid hn2
  obtain ⟨V, hV⟩ : ∃ V, canonI ts x (-1) = V := ⟨_, rfl⟩
  have HV := hid hV
  rw [hV] at CI CS
  have hVV : (V.toList != V.toList) = false := by simp
  have EV := empty_is V
  obtain ⟨n, hnn⟩ : ∃ n, ts.length = n := ⟨_, rfl⟩
  have HN := hid hnn
  rw [hnn] at CI CS CBR CM ⊢
  clear hr2 hz2 hb2 hV hnn hzb hn2 hx1 hx2 hc2 hc2m
  go_wp2_with fail
  refine (CI.out _ (Below.refl _ _)).mono ?_
  rintro e w3 ⟨rfl, hb3⟩
  have HB3 := hid hb3
  clear hb3 CI
  go_wp2_with fail
  refine (CS.out _ HB3.out).mono ?_
  rintro e w4 ⟨rfl, hb4⟩
  have HB4 := hid (bb HB3.out hb4)
  clear hb4 CS HB3
  by_cases hv0 : V.size = 0
  · rw [decide_eq_true hv0] at EV
    clear hv0
    go_wp2_with fail
    go_ret
    exact ⟨rfl, bb HB2.out HB4.out⟩
  have hcB := canB_of (ts := ts) (x := x) (y := -1) (by rw [HV.out]; exact hv0)
  rw [decide_eq_false hv0] at EV
  clear hv0
  have hcB2 := hcB
  unfold canB at hcB2
  simp only [Bool.and_eq_true] at hcB2
  obtain ⟨_, hel, _⟩ := hcB2
  obtain ⟨hT, k, rfl, hk⟩ := elemB_t hel
  have hbi : branchI ts (k : Int) = branchL ts k := by unfold branchI; rw [hel]; rfl
  rw [hbi, hel] at CBR
  have HSAME := hid (fun (R : Tk) (hR : R.attrs = rlA ts (k : Int) pqL) (hg : graftB [R] (branchL ts k) 0 = true) (hN : namesB (graftL [R] (branchL ts k) 0) = true) => (else_same hk hcB hR hg hN).trans HV.out)
  have HBL := hid (show (branchL ts k).length ≤ 11 by rw [branchL_len hk]; have h1 := (endN_le hk).2; have h2 := HLN.out; omega)
  have HBZ := hid (br_sz (k := k) HZ.out)
  have HRL := hid (rl_sz HZ.out (k : Int))
  clear hcB hel hT hk hbi
  obtain ⟨b, hb⟩ : ∃ b, branchL ts k = b := ⟨_, rfl⟩
  rw [hb] at CBR HSAME HBL HBZ
  clear hb
  go_wp2_with fail
  refine (CBR.out _ HB4.out).mono ?_
  rintro e w5 ⟨vb, rfl, hrow⟩
  obtain ⟨ab, cb, rfl, htb⟩ := hrow.tk
  have HTB := hid htb
  have HB5 := hid (bb HB4.out hrow.bel)
  clear hrow htb CBR HB4
  obtain ⟨bn, hbn⟩ : ∃ bn, b.length = bn := ⟨_, rfl⟩
  have HBN := hid hbn
  rw [hbn] at HBL ⊢
  clear hbn
  have HST := hid (RootAt.start w5)
  obtain ⟨W6, hW6⟩ : ∃ W6, (((w5.alloc (.cells #[] 42)).alloc (.cells #[.int .i64 (-1), .string rootS, .slice (some ⟨w5.heap.size, 0, none⟩) 0 0, .string ⟨#[]⟩] 33)).alloc (.cells #[.string ⟨#[]⟩, .string pS, .string qS] 9)) = W6 := ⟨_, rfl⟩
  rw [hW6] at HST
  unfold rootS pS qS at hW6
  have HW6 := hid hW6
  clear hW6
  obtain ⟨i0, hi, hz0, hz1, hz2⟩ := info_parts infoAtW
  have HI := hid (And.intro hi (And.intro hz0 (And.intro hz1 hz2)))
  clear hi hz0 hz1 hz2
  go_wp2_with fail
  simp only [HW6.out]
  go_loopw [48] (fun v48 wr => ∃ (i : Nat) (a8 : Option Addr) (c8 : Nat) (rl : List At), v48 = .int .i64 (i : Int) ∧ i ≤ 3 ∧ rl.length ≤ i ∧ Hid (rl = rlA ts (k : Int) (pqL.take i)) ∧ Hid (RootAt w5 wr (w5.heap.size + 1) (w5.heap.size + 2) a8 c8 rl)) (fun k _ => 3 - (intOf k).toNat)
  case atStart => exact ⟨0, some ⟨w5.heap.size, 0, none⟩, 0, [], rfl, by omega, Nat.zero_le _, rfl, HST.out⟩
  case round =>
    clear HST HW6
    obtain ⟨i, a8, c8, rl, rfl, hi, hrl, HK, HRT⟩ := hrel
    by_cases hi3 : i < 3
    · have hipq : i < pqL.length := hi3
      have hi3' : (i : Int) < 3 := by omega
      have HTS := hid (rlA_next ts (k : Int) hipq)
      rw [← HK.out] at HTS
      have c1 := HRT.out.pq hipq
      have HPZ := hid (preOk_sz (pq_ok _ (List.getElem_mem hipq)))
      obtain ⟨p, hp⟩ : ∃ p, pqL[i] = p := ⟨_, rfl⟩
      rw [hp] at c1 HTS HPZ
      clear hp
      have CMP := hid (CM.out p (by have := HPZ.out; omega))
      have EP := empty_is p
      have EP2 : (!p.toList.isEmpty) = !decide (p.size = 0) := by rw [EP]
      have HRF := hid (show rlF ts (k : Int) p = if (meanI ts (k : Int) p).isSome && (!decide (((meanI ts (k : Int) p).getD ⟨#[]⟩).size = 0) || decide (p.size = 0)) then [⟨nmD p, (meanI ts (k : Int) p).getD ⟨#[]⟩⟩] else [] from rfl)
      generalize (meanI ts (k : Int) p).isSome = I at *
      obtain ⟨M, hM⟩ : ∃ M, (meanI ts (k : Int) p).getD ⟨#[]⟩ = M := ⟨_, rfl⟩
      rw [hM] at CMP HRF
      clear hM
      have EM := empty_is M
      have EM2 : (!M.toList.isEmpty) = !decide (M.size = 0) := by rw [EM]
      obtain ⟨NM, hNM⟩ : ∃ NM, nmD p = NM := ⟨_, rfl⟩
      rw [hNM] at HRF
      obtain ⟨nk, hnk⟩ : ∃ nk, rl.length = nk := ⟨_, rfl⟩
      have HNK := hid hnk
      rw [hnk] at hrl
      clear hnk
      by_cases hp0 : p.size = 0
      · have hnm2 : NM = ⟨#[110, 115]⟩ := by rw [← hNM]; unfold nmD; rw [if_pos hp0]
        rw [decide_eq_true hp0] at EP EP2 HRF
        clear hp0 hNM
        subst hnm2
        obtain ⟨NM, hNM⟩ : ∃ NM : ByteArray, (⟨#[110, 115]⟩ : ByteArray) = NM := ⟨_, rfl⟩
        rw [hNM] at HRF
        have HNM := hid hNM
        clear hNM
        go_wp2_with fail
        refine (CMP.out _ (bb HB5.out HRT.out.bel)).mono ?_
        rintro e w7 ⟨rfl, hb7⟩
        have HRT7 := hid (HRT.out.below hb7)
        clear hb7 CMP HRT c1
        simp only [HNM.out]
        cases I with
        | false =>
          have RF0 : (if (false && (!decide (M.size = 0) || true)) = true then [(⟨NM, M⟩ : At)] else []) = [] := rfl
          have HE := hid (show rl = rlA ts (k : Int) (pqL.take (i + 1)) by rw [HTS.out, HRF.out, RF0, List.append_nil])
          go_wp2_with fail
          go_roundw
          case rel => exact ⟨i + 1, a8, c8, rl, by go_num, by omega, by rw [HNK.out]; omega, HE.out, HRT7.out⟩
          case measure => simp [intOf]; omega
        | true =>
          have RF1 : (if (true && (!decide (M.size = 0) || true)) = true then [(⟨NM, M⟩ : At)] else []) = [⟨NM, M⟩] := by rw [Bool.or_true]; rfl
          by_cases hm0 : M.size = 0
          · rw [decide_eq_true hm0] at EM EM2
            clear hm0
            have HE := hid (show rl ++ [⟨NM, M⟩] = rlA ts (k : Int) (pqL.take (i + 1)) by rw [HTS.out, HRF.out, RF1])
            have hsz := HRT7.out.bel.size
            obtain ⟨_, _, r2, _⟩ := (box4 HRT7.out.root).1
            have HOW := hid HRT7.out.own
            rw [HNK.out] at r2 HOW
            go_wp2_with (at_builtin; refine wpList_append_own_at _ rfl _ _ 31 rfl w5.heap.size 42 i0 (.agg #[.string ⟨#[]⟩, .string ⟨#[]⟩]) 2 32 Tryz.underlying31 HI.out.1 HI.out.2.1 HI.out.2.2.1 HI.out.2.2.2 rfl (by decide) _ _ _ rfl (HOW.out.alloc _) ⟨w7.heap.size, 0, none⟩ 1 1 [.string NM, .string M] rfl rfl (two_cell _ _ _ _) (two_str _ _) (by unfold maxLen; omega) (by omega) (by simp; omega) ?_)
            intro v' w8 hown' hgrow _ _
            rw [← HNK.out] at hown' hgrow
            obtain ⟨a9, c9, rfl, hrt9, hs9, hf9⟩ := RootAt.more (q := ⟨NM, M⟩) (HRT7.out.below ((Below.refl _ _).alloc (Nat.le_refl _) _)) hown' hgrow
            have HRT9 := hid hrt9
            have HL9 := hid (show (rl ++ [(⟨NM, M⟩ : At)]).length ≤ i + 1 by rw [List.length_append, HNK.out]; show _ + 1 ≤ _; omega)
            obtain ⟨u9, hu9⟩ := Option.isSome_iff_exists.1 hs9
            generalize rl ++ [(⟨NM, M⟩ : At)] = rl9 at *
            clear hown' hgrow hrt9 hs9 r2
            go_wp2_with fail
            go_roundw
            case rel => exact ⟨i + 1, a9, c9, rl9, by go_num, by omega, HL9.out, HE.out, HRT9.out⟩
            case measure => simp [intOf]; omega
          · rw [decide_eq_false hm0] at EM EM2
            clear hm0
            have HE := hid (show rl ++ [⟨NM, M⟩] = rlA ts (k : Int) (pqL.take (i + 1)) by rw [HTS.out, HRF.out, RF1])
            have hsz := HRT7.out.bel.size
            obtain ⟨_, _, r2, _⟩ := (box4 HRT7.out.root).1
            have HOW := hid HRT7.out.own
            rw [HNK.out] at r2 HOW
            go_wp2_with (at_builtin; refine wpList_append_own_at _ rfl _ _ 31 rfl w5.heap.size 42 i0 (.agg #[.string ⟨#[]⟩, .string ⟨#[]⟩]) 2 32 Tryz.underlying31 HI.out.1 HI.out.2.1 HI.out.2.2.1 HI.out.2.2.2 rfl (by decide) _ _ _ rfl (HOW.out.alloc _) ⟨w7.heap.size, 0, none⟩ 1 1 [.string NM, .string M] rfl rfl (two_cell _ _ _ _) (two_str _ _) (by unfold maxLen; omega) (by omega) (by simp; omega) ?_)
            intro v' w8 hown' hgrow _ _
            rw [← HNK.out] at hown' hgrow
            obtain ⟨a9, c9, rfl, hrt9, hs9, hf9⟩ := RootAt.more (q := ⟨NM, M⟩) (HRT7.out.below ((Below.refl _ _).alloc (Nat.le_refl _) _)) hown' hgrow
            have HRT9 := hid hrt9
            have HL9 := hid (show (rl ++ [(⟨NM, M⟩ : At)]).length ≤ i + 1 by rw [List.length_append, HNK.out]; show _ + 1 ≤ _; omega)
            obtain ⟨u9, hu9⟩ := Option.isSome_iff_exists.1 hs9
            generalize rl ++ [(⟨NM, M⟩ : At)] = rl9 at *
            clear hown' hgrow hrt9 hs9 r2
            go_wp2_with fail
            go_roundw
            case rel => exact ⟨i + 1, a9, c9, rl9, by go_num, by omega, HL9.out, HE.out, HRT9.out⟩
            case measure => simp [intOf]; omega
      · have hnm2 : (⟨#[110, 115, 58]⟩ : ByteArray) ++ p = NM := by rw [← hNM]; unfold nmD; rw [if_neg hp0]
        have hf : ¬ 9223372036854775807 < (⟨#[110, 115, 58]⟩ : ByteArray).size + p.size := by
          have e3 : (⟨#[110, 115, 58]⟩ : ByteArray).size = 3 := rfl
          have := HPZ.out
          omega
        rw [decide_eq_false hp0] at EP EP2 HRF
        clear hp0 hNM
        go_wp2_with fail
        refine (CMP.out _ (bb HB5.out HRT.out.bel)).mono ?_
        rintro e w7 ⟨rfl, hb7⟩
        have HRT7 := hid (HRT.out.below hb7)
        clear hb7 CMP HRT c1 hf hnm2
        cases I with
        | false =>
          have RF0 : (if (false && (!decide (M.size = 0) || false)) = true then [(⟨NM, M⟩ : At)] else []) = [] := rfl
          have HE := hid (show rl = rlA ts (k : Int) (pqL.take (i + 1)) by rw [HTS.out, HRF.out, RF0, List.append_nil])
          go_wp2_with fail
          go_roundw
          case rel => exact ⟨i + 1, a8, c8, rl, by go_num, by omega, by rw [HNK.out]; omega, HE.out, HRT7.out⟩
          case measure => simp [intOf]; omega
        | true =>
          by_cases hm0 : M.size = 0
          · have RF0 : (if (true && (!decide (M.size = 0) || false)) = true then [(⟨NM, M⟩ : At)] else []) = [] := by rw [decide_eq_true hm0]; rfl
            rw [decide_eq_true hm0] at EM EM2
            clear hm0
            have HE := hid (show rl = rlA ts (k : Int) (pqL.take (i + 1)) by rw [HTS.out, HRF.out, RF0, List.append_nil])
            go_wp2_with fail
            go_roundw
            case rel => exact ⟨i + 1, a8, c8, rl, by go_num, by omega, by rw [HNK.out]; omega, HE.out, HRT7.out⟩
            case measure => simp [intOf]; omega
          · have RF1 : (if (true && (!decide (M.size = 0) || false)) = true then [(⟨NM, M⟩ : At)] else []) = [⟨NM, M⟩] := by rw [decide_eq_false hm0]; rfl
            rw [decide_eq_false hm0] at EM EM2
            clear hm0
            have HE := hid (show rl ++ [⟨NM, M⟩] = rlA ts (k : Int) (pqL.take (i + 1)) by rw [HTS.out, HRF.out, RF1])
            have hsz := HRT7.out.bel.size
            obtain ⟨_, _, r2, _⟩ := (box4 HRT7.out.root).1
            have HOW := hid HRT7.out.own
            rw [HNK.out] at r2 HOW
            go_wp2_with (at_builtin; refine wpList_append_own_at _ rfl _ _ 31 rfl w5.heap.size 42 i0 (.agg #[.string ⟨#[]⟩, .string ⟨#[]⟩]) 2 32 Tryz.underlying31 HI.out.1 HI.out.2.1 HI.out.2.2.1 HI.out.2.2.2 rfl (by decide) _ _ _ rfl (HOW.out.alloc _) ⟨w7.heap.size, 0, none⟩ 1 1 [.string NM, .string M] rfl rfl (two_cell _ _ _ _) (two_str _ _) (by unfold maxLen; omega) (by omega) (by simp; omega) ?_)
            intro v' w8 hown' hgrow _ _
            rw [← HNK.out] at hown' hgrow
            obtain ⟨a9, c9, rfl, hrt9, hs9, hf9⟩ := RootAt.more (q := ⟨NM, M⟩) (HRT7.out.below ((Below.refl _ _).alloc (Nat.le_refl _) _)) hown' hgrow
            have HRT9 := hid hrt9
            have HL9 := hid (show (rl ++ [(⟨NM, M⟩ : At)]).length ≤ i + 1 by rw [List.length_append, HNK.out]; show _ + 1 ≤ _; omega)
            obtain ⟨u9, hu9⟩ := Option.isSome_iff_exists.1 hs9
            generalize rl ++ [(⟨NM, M⟩ : At)] = rl9 at *
            clear hown' hgrow hrt9 hs9 r2
            go_wp2_with fail
            go_roundw
            case rel => exact ⟨i + 1, a9, c9, rl9, by go_num, by omega, HL9.out, HE.out, HRT9.out⟩
            case measure => simp [intOf]; omega
    · have hie : i = 3 := by omega
      have HE := hid (show rl = rlA ts (k : Int) pqL by
        have h := HK.out
        rw [hie, show pqL.take 3 = pqL from rfl] at h
        exact h)
      have hi3' : ¬ (i : Int) < 3 := by omega
      have HBW := hid (bb HB5.out HRT.out.bel)
      have HTBr := hid (HTB.out.below HRT.out.bel)
      have hRz : TksSz 1048576 [(⟨-1, rootS, rl, ⟨#[]⟩⟩ : Tk)] := fun t ht => by
        rw [List.mem_singleton.1 ht]
        refine ⟨by show rootS.size ≤ _; decide, by show rl.length ≤ _; omega, ?_, Nat.zero_le _⟩
        show AtSz 1048576 rl
        rw [HE.out]
        exact HRL.out.1
      have CG := hid (cGraftedS (some ⟨w5.heap.size + 1, 0, none⟩) ab 1 cb [(⟨-1, rootS, rl, ⟨#[]⟩⟩ : Tk)] b 0 wr HRT.out.row HTBr.out (Nat.le_refl _) (by unfold maxLen; omega) (by show 1 ≤ _; omega) (by rw [HBN.out]; have := HBL.out; omega) hRz HBZ.out)
      have HGS := hid (HSAME.out ⟨-1, rootS, rl, ⟨#[]⟩⟩ HE.out)
      have HGZ := hid (graft_sz (x := 0) hRz HBZ.out)
      have HGL := hid (graft_len (ts := [(⟨-1, rootS, rl, ⟨#[]⟩⟩ : Tk)]) (br := b) (x := 0) (by show 1 ≤ 50; omega))
      obtain ⟨GL, hGL⟩ : ∃ GL, graftL [(⟨-1, rootS, rl, ⟨#[]⟩⟩ : Tk)] b 0 = GL := ⟨_, rfl⟩
      obtain ⟨GB, hGB⟩ : ∃ GB, graftB [(⟨-1, rootS, rl, ⟨#[]⟩⟩ : Tk)] b 0 = GB := ⟨_, rfl⟩
      rw [hGL] at CG HGS HGZ HGL
      rw [hGB] at CG HGS
      rw [show [(⟨-1, rootS, rl, ⟨#[]⟩⟩ : Tk)].length = 1 from rfl, HBN.out] at CG
      clear hGL hGB hRz hie
      go_wp2_with fail
      refine CG.out.mono ?_
      rintro e w8 ⟨vx, rfl, hrow⟩
      obtain ⟨ax, cx, rfl, htx⟩ := hrow.tk
      have HTX := hid htx
      have HB8 := hid (bb HBW.out hrow.bel)
      have HTB8 := hid (HTBr.out.below hrow.bel)
      clear hrow htx CG HRT HTBr HBW
      have CNM := hid (cNamesOkS ax cx GL w8 HTX.out (by have := HGL.out; omega) HGZ.out)
      have CFI := hid (fun wx (hb : Below w8.heap.size w8 wx) => cCanonJ ax cx GL 1 (-1) wx (HTX.out.below hb) (by have := HGL.out; omega) HGZ.out)
      obtain ⟨gn, hgn⟩ : ∃ gn, GL.length = gn := ⟨_, rfl⟩
      rw [hgn] at CNM CFI ⊢
      clear hgn
      cases GB with
      | false =>
        go_wp2_with fail
        go_ret
        exact ⟨rfl, bb HB2.out HB8.out⟩
      | true =>
        obtain ⟨NB, hNB⟩ : ∃ NB, namesB GL = NB := ⟨_, rfl⟩
        rw [hNB] at CNM HGS
        clear hNB
        go_wp2_with fail
        refine CNM.out.mono ?_
        rintro e w9 ⟨rfl, hb9⟩
        have HB9 := hid hb9
        clear hb9 CNM
        cases NB with
        | false =>
          go_wp2_with fail
          go_ret
          exact ⟨rfl, bb HB2.out (bb HB8.out HB9.out)⟩
        | true =>
          have HFV := hid (HGS.out (by first | rfl | trivial) (by first | rfl | trivial))
          have hbn11 := HBL.out
          rw [HFV.out] at CFI
          have hVE : (V.toList == V.toList) = true := by simp
          go_wp2_with fail
          go_loopw [17] (fun v17 wz => ∃ i : Nat, v17 = .int .i64 (i : Int) ∧ i ≤ bn ∧ Hid (Below w8.heap.size w8 wz)) (fun k _ => bn - (intOf k).toNat)
          case atStart => exact ⟨0, rfl, Nat.zero_le _, HB9.out⟩
          case round =>
            obtain ⟨i, rfl, hib, HBz⟩ := hrel
            by_cases hlt : i < bn
            · have hib2 : i < b.length := by rw [HBN.out]; exact hlt
              have hin : (i : Int) < (bn : Int) := by omega
              obtain ⟨gb, go, aa, ca, rfl, hgb, q0, q1, q2, q3, hra⟩ := HTB8.out i hib2
              have HRA := hid hra
              have HQ2 := hid q2
              have HGB := hid hgb
              have HAL := hid (show b[i].attrs.length ≤ 1048576 from (HBZ.out _ (List.getElem_mem hib2)).2.1)
              obtain ⟨at0, hat0⟩ : ∃ at0, b[i].attrs = at0 := ⟨_, rfl⟩
              rw [hat0] at HRA HQ2 HAL
              obtain ⟨nA, hnA⟩ : ∃ nA, at0.length = nA := ⟨_, rfl⟩
              have HNA := hid hnA
              rw [hnA] at HQ2 HAL
              clear q0 q1 q2 q3 hra hat0 hnA hgb
              have hnA2 := HAL.out
              go_wp2_with fail
              go_loopw [18] (fun v18 wy => ∃ j : Nat, v18 = .int .i64 (j : Int) ∧ j ≤ nA ∧ Hid (Below w8.heap.size w8 wy)) (fun k _ => nA - (intOf k).toNat)
              case atStart => exact ⟨0, rfl, Nat.zero_le _, HBz.out⟩
              case round =>
                obtain ⟨j, rfl, hj, HBy⟩ := hrel
                have q2 := (HBy.out.cell (p := ⟨gb, go + i * 4 + 2, none⟩) HGB.out).trans HQ2.out
                by_cases hjl : j < nA
                · have hja : j < at0.length := by rw [HNA.out]; exact hjl
                  have hjn : (j : Int) < (nA : Int) := by omega
                  obtain ⟨b', o', rfl, hb', c1, c2⟩ := (HRA.out.below HBy.out) j hja
                  obtain ⟨nm, hnm⟩ : ∃ nm, at0[j].name = nm := ⟨_, rfl⟩
                  rw [hnm] at c1
                  clear hnm c2
                  cases hq : (nm.toList == [110, 115, 58, 122, 122, 122]) with
                  | true =>
                    go_wp2_with fail
                    go_ret
                    exact ⟨rfl, bb HB2.out (bb HB8.out HBy.out)⟩
                  | false =>
                    go_wp2_with fail
                    go_roundw
                    case rel => exact ⟨j + 1, by go_num, by omega, HBy.out⟩
                    case measure => simp [intOf]; omega
                · have hjn : ¬ (j : Int) < (nA : Int) := by omega
                  go_wp2_with fail
                  go_roundw
                  case rel => exact ⟨i + 1, by go_num, by omega, HBy.out⟩
                  case measure => simp [intOf]; omega
            · have hin : ¬ (i : Int) < (bn : Int) := by omega
              go_wp2_with fail
              refine (CFI.out _ HBz.out).mono ?_
              rintro e w10 ⟨rfl, hb10⟩
              have HBf := hid (bb HB2.out (bb HB8.out (bb HBz.out hb10)))
              clear hb10
              go_wp2_with fail
              go_ret
              exact ⟨rfl, HBf.out⟩

end Go.Proofs.YtmghipjpgoghlaaGreat
