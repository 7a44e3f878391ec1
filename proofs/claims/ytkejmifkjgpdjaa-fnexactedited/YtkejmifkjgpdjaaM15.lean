/- Contracts of the specification's Grafted and Wrapped. Contract of the specification's Pruned. What was put in is there (mathematics alone). -/
import Derived.Test.YtkejmifkjgpdjaaM12
import Derived.Test.YtkejmifkjgpdjaaM6
import Derived.Test.YtkejmifkjgpdjaaM14
import Derived.Test.YtkejmifkjgpdjaaM13
namespace Go.Proofs.Ytkejmifkjgpdjaa
open Go.RowKit
set_option linter.unusedVariables false
set_option linter.unusedSimpArgs false

theorem put_sz {ts br : List Tk} {e : Nat} {par : Int} {b : Nat} (h : TksSz b ts) (h2 : TksSz b br) : TksSz b (putL ts e par br) := by
  intro t ht
  unfold putL at ht
  rcases List.mem_append.1 ht with h' | h'
  · rcases List.mem_append.1 h' with h'' | h''
    · exact segN_sz h _ t h''
    · exact segN_sz h2 _ t h''
  · exact segN_sz h _ t h'

/-- Grafted: the tree, and whether. -/
noncomputable def graftB (ts br : List Tk) (x : Int) : Bool := elemB ts x && (treeB br && treeB (putL ts (endN ts x.toNat) x br))

noncomputable def graftL (ts br : List Tk) (x : Int) : List Tk := if treeB ts then (if graftB ts br x then putL ts (endN ts x.toNat) x br else ts) else []

theorem elemB_tree {ts : List Tk} {x : Int} (h : treeB ts = false) : elemB ts x = false := by
  unfold elemB hasB
  rw [h]
  rfl

set_option maxRecDepth 4000 in
set_option maxHeartbeats 4000000 in
theorem cGraftedS (a a2 : Option Addr) (cap cap2 : Nat) (ts br : List Tk) (x : Int) (w : World) (hR : TkRow w a ts) (hR2 : TkRow w a2 br) (hc : ts.length ≤ cap) (hcm : cap ≤ maxLen) (hn : ts.length ≤ 1048576) (hn2 : br.length ≤ 1048576) (hz : TksSz 1048576 ts) (hz2 : TksSz 1048576 br) :
    Calls Try.prog 38 #[.slice a ts.length cap, .int .i64 x, .slice a2 br.length cap2] w (TreeAns w (graftL ts br x) (graftB ts br x)) := by
  have C := hid (cTreeOkS a cap ts w hR hn hz)
  have HR := hid hR
  have HR2 := hid hR2
  have CC := hid (fun wx (h : TkRow wx a ts) => cCopyT a cap ts wx h hn hz)
  cases hT : treeB ts with
  | false =>
    have HE := hid (And.intro (show graftL ts br x = [] by unfold graftL; rw [hT]; rfl) (show graftB ts br x = false by unfold graftB; rw [elemB_tree hT]; rfl))
    rw [HE.out.1, HE.out.2]
    rw [hT] at C
    clear hT HE hR hR2 hz hz2
    generalize ts.length = n at *
    generalize br.length = n2 at *
    go_enter Try.func38, Try.ntmps38
    go_wp2_with fail
    refine C.out.mono ?_
    rintro e w1 ⟨rfl, hb1⟩
    have HB1 := hid hb1
    clear hb1 C
    go_wp2_with fail
    go_ret2
    exact TreeAns.none HB1.out
  | true =>
    have CE := hid (fun wx (h : TkRow wx a ts) => c_spec_l9Element a cap ts x wx h hn hz)
    have CO := hid (fun wx (h : TkRow wx a2 br) => cTreeOkS a2 cap2 br wx h hn2 hz2)
    have HG := hid (show graftL ts br x = if graftB ts br x then putL ts (endN ts x.toNat) x br else ts by unfold graftL; rw [hT]; rfl)
    rw [HG.out]
    rw [hT] at C
    cases hE : elemB ts x with
    | false =>
      have HV := hid (show graftB ts br x = false by unfold graftB; rw [hE]; rfl)
      rw [HV.out]
      rw [hE] at CE
      show Calls _ _ _ _ (TreeAns w ts false)
      clear hT HG HV hR hR2 hz hz2 CO
      generalize ts.length = n at *
      generalize br.length = n2 at *
      go_enter Try.func38, Try.ntmps38
      go_wp2_with fail
      refine C.out.mono ?_
      rintro e w1 ⟨rfl, hb1⟩
      have HB1 := hid hb1
      clear hb1 C
      go_wp2_with fail
      refine (CE.out _ (HR.out.below HB1.out)).mono ?_
      rintro e w2 ⟨rfl, hb2⟩
      have HB2 := hid (bb HB1.out hb2)
      clear hb2 CE
      go_wp2_with fail
      refine (CC.out _ (HR.out.below HB2.out)).mono ?_
      rintro e w3 ⟨v3, rfl, hr3⟩
      have HR3 := hid (RowOf.later HB2.out hr3)
      clear hr3 CC
      go_wp2_with fail
      go_ret2
      exact ⟨_, rfl, HR3.out⟩
    | true =>
      rw [hE] at CE
      cases hB : treeB br with
      | false =>
        have HV := hid (show graftB ts br x = false by unfold graftB; rw [hB, Bool.false_and, Bool.and_false])
        rw [HV.out]
        rw [hB] at CO
        show Calls _ _ _ _ (TreeAns w ts false)
        clear hT HG HV hR hR2 hz hz2
        generalize ts.length = n at *
        generalize br.length = n2 at *
        go_enter Try.func38, Try.ntmps38
        go_wp2_with fail
        refine C.out.mono ?_
        rintro e w1 ⟨rfl, hb1⟩
        have HB1 := hid hb1
        clear hb1 C
        go_wp2_with fail
        refine (CE.out _ (HR.out.below HB1.out)).mono ?_
        rintro e w2 ⟨rfl, hb2⟩
        have HB2 := hid (bb HB1.out hb2)
        clear hb2 CE
        go_wp2_with fail
        refine (CO.out _ (HR2.out.below HB2.out)).mono ?_
        rintro e w3 ⟨rfl, hb3⟩
        have HB3 := hid (bb HB2.out hb3)
        clear hb3 CO
        go_wp2_with fail
        refine (CC.out _ (HR.out.below HB3.out)).mono ?_
        rintro e w4 ⟨v4, rfl, hr4⟩
        have HR4 := hid (RowOf.later HB3.out hr4)
        clear hr4 CC
        go_wp2_with fail
        go_ret2
        exact ⟨_, rfl, HR4.out⟩
      | true =>
        rw [hB] at CO
        obtain ⟨hTP, k, rfl, hk⟩ := elemB_t hE
        have hBP : TreeP br := by unfold treeB at hB; simpa using hB
        have CL := hid (fun wx (h : TkRow wx a ts) => cEndS a cap ts k wx h hk hn)
        have hle := endN_le hk
        have CP := hid (fun wx (h : TkRow wx a ts) (h2 : TkRow wx a2 br) => cPutL a a2 cap cap2 ts br (endN ts k) (k : Int) wx h h2 (tree_kindB hTP) (tree_kindB hBP) hle.2 hc hcm hTP.2.1 hBP.2.1 hz hz2)
        have HPL := hid (show (putL ts (endN ts k) (k : Int) br).length ≤ 1048576 by rw [putL_len hle.2]; have := hTP.2.1; have := hBP.2.1; omega)
        have HPZ := hid (put_sz (e := endN ts k) (par := (k : Int)) hz hz2)
        have HGB := hid (show graftB ts br (k : Int) = treeB (putL ts (endN ts k) (k : Int) br) by unfold graftB; rw [hE, hB]; rfl)
        rw [HGB.out]
        show Calls _ _ _ _ (TreeAns w (if treeB (putL ts (endN ts k) (k : Int) br) then putL ts (endN ts k) (k : Int) br else ts) _)
        obtain ⟨P, hP⟩ : ∃ P, putL ts (endN ts k) (k : Int) br = P := ⟨_, rfl⟩
        rw [hP] at CP HPL HPZ ⊢
        have CQ := hid (fun wx aP cP (h : TkRow wx aP P) => cTreeOkS aP cP P wx h HPL.out HPZ.out)
        obtain ⟨B, hBB⟩ : ∃ B, treeB P = B := ⟨_, rfl⟩
        rw [hBB] at CQ ⊢
        clear hT HG HGB hR hR2 hz hz2 hP hBB hE hB hTP hBP
        generalize endN ts k = E at *
        generalize ts.length = n at *
        generalize br.length = n2 at *
        obtain ⟨R, hRR⟩ : ∃ R, (if B = true then P else ts) = R := ⟨_, rfl⟩
        have HRR := hid hRR
        rw [hRR]
        clear hRR
        go_enter Try.func38, Try.ntmps38
        go_wp2_with fail
        refine C.out.mono ?_
        rintro e w1 ⟨rfl, hb1⟩
        have HB1 := hid hb1
        clear hb1 C
        go_wp2_with fail
        refine (CE.out _ (HR.out.below HB1.out)).mono ?_
        rintro e w2 ⟨rfl, hb2⟩
        have HB2 := hid (bb HB1.out hb2)
        clear hb2 CE
        go_wp2_with fail
        refine (CO.out _ (HR2.out.below HB2.out)).mono ?_
        rintro e w3 ⟨rfl, hb3⟩
        have HB3 := hid (bb HB2.out hb3)
        clear hb3 CO
        go_wp2_with fail
        refine (CL.out _ (HR.out.below HB3.out)).mono ?_
        rintro e w4 ⟨rfl, rfl⟩
        go_wp2_with fail
        refine (CP.out _ (HR.out.below HB3.out) (HR2.out.below HB3.out)).mono ?_
        rintro e w5 ⟨v5, rfl, hr5⟩
        have HR5 := hid (RowOf.later HB3.out hr5)
        obtain ⟨a5, c5, hv5, ht5⟩ := hr5.tk
        subst hv5
        have HT5 := hid ht5
        clear hr5 CP ht5
        obtain ⟨pn, hpn⟩ : ∃ pn, P.length = pn := ⟨_, rfl⟩
        rw [hpn] at CQ HR5 ⊢
        clear hpn
        go_wp2_with fail
        refine (CQ.out _ _ _ HT5.out).mono ?_
        rintro e w6 ⟨rfl, hb6⟩
        have HB6 := hid (bb HR5.out.bel hb6)
        have HR6 := hid (HR5.out.below hb6)
        clear hb6 CQ
        cases B with
        | false =>
          have HF := hid (show R = ts from HRR.out.symm)
          go_wp2_with fail
          refine (CC.out _ (HR.out.below HB6.out)).mono ?_
          rintro e w7 ⟨v7, rfl, hr7⟩
          have HR7 := hid (RowOf.later HB6.out hr7)
          clear hr7 CC
          go_wp2_with fail
          go_ret2
          exact ⟨_, rfl, by rw [HF.out]; exact HR7.out⟩
        | true =>
          have HF := hid (show R = P from HRR.out.symm)
          go_wp2_with fail
          go_ret2
          exact ⟨_, rfl, by rw [HF.out]; exact HR6.out⟩

end Go.Proofs.Ytkejmifkjgpdjaa

namespace Go.Proofs.Ytkejmifkjgpdjaa
open Go.RowKit
set_option linter.unusedVariables false
set_option linter.unusedSimpArgs false

theorem outC_sz {ts : List Tk} {a e i b : Nat} (h : TksSz b ts) : TksSz b (outC ts a e i) := by
  intro t ht
  unfold outC at ht
  rcases List.mem_append.1 ht with h' | h'
  · exact h t (List.mem_of_mem_take h')
  · exact segN_sz h _ t h'

theorem text_of {ts : List Tk} (hT : TreeP ts) {k : Nat} {t : Tk} (h : ts[k]? = some t) : t.text.size ≤ 60 := by
  have := tree_text hT k
  unfold textAt at this
  rw [h] at this
  exact this

theorem cutL_sz {ts : List Tk} {a e : Nat} (hT : TreeP ts) (hz : TksSz 1048576 ts) : TksSz 1048576 (cutL ts a e) := by
  cases hs : sideB ts a e with
  | false => rw [cutL_no hs]; exact outC_sz hz
  | true =>
    have hs' := hs
    unfold sideB at hs'
    split at hs'
    · rename_i t u ht hu
      rw [cutL_yes hs ht hu]
      intro x hx
      unfold joinC at hx
      rcases List.mem_append.1 hx with h' | h'
      · rcases List.mem_or_eq_of_mem_set h' with h'' | h''
        · exact hz x (List.mem_of_mem_take h'')
        · subst h''
          obtain ⟨z1, z2, z3, z4⟩ := hz t (List.mem_of_getElem? ht)
          refine ⟨z1, z2, z3, ?_⟩
          have k1 := text_of hT ht
          have k2 := text_of hT hu
          show (t.text ++ u.text).size ≤ _
          rw [ByteArray.size_append]
          omega
      · exact segN_sz hz _ x h'
    · cases hs'

theorem cutL_len {ts : List Tk} {a e : Nat} (hae : a ≤ e) (he : e ≤ ts.length) : (cutL ts a e).length ≤ ts.length := by
  cases hs : sideB ts a e with
  | false =>
    rw [cutL_no hs, outC_len hae he (Nat.le_refl _)]
    omega
  | true =>
    have hs' := hs
    unfold sideB at hs'
    split at hs'
    · rename_i t u ht hu
      rw [cutL_yes hs ht hu]
      unfold joinC
      have hel : e < ts.length := by
        rcases Nat.lt_or_ge e ts.length with h' | h'
        · exact h'
        · rw [List.getElem?_eq_none h'] at hu; cases hu
      rw [List.length_append, List.length_set, List.length_take, segN_len _ (by omega)]
      omega
    · cases hs'

/-- Pruned: the tree, and whether. -/
noncomputable def pruneB (ts : List Tk) (x : Int) : Bool := (decide (1 ≤ x) && decide (x < (ts.length : Int))) && (treeB ts && treeB (cutL ts x.toNat (endN ts x.toNat)))

noncomputable def pruneT (ts : List Tk) (x : Int) : List Tk := if treeB ts then (if pruneB ts x then cutL ts x.toNat (endN ts x.toNat) else ts) else []

set_option maxRecDepth 4000 in
set_option maxHeartbeats 4000000 in
theorem cPrunedS (a : Option Addr) (cap : Nat) (ts : List Tk) (x : Int) (w : World) (hR : TkRow w a ts) (hc : ts.length ≤ cap) (hcm : cap ≤ maxLen) (hn : ts.length ≤ 1048576) (hz : TksSz 1048576 ts) :
    Calls Try.prog 36 #[.slice a ts.length cap, .int .i64 x] w (TreeAns w (pruneT ts x) (pruneB ts x)) := by
  have C := hid (cTreeOkS a cap ts w hR hn hz)
  have HR := hid hR
  have CC := hid (fun wx (h : TkRow wx a ts) => cCopyT a cap ts wx h hn hz)
  cases hT : treeB ts with
  | false =>
    have HE := hid (And.intro (show pruneT ts x = [] by unfold pruneT; rw [hT]; rfl) (show pruneB ts x = false by unfold pruneB; rw [hT, Bool.false_and, Bool.and_false]))
    rw [HE.out.1, HE.out.2]
    rw [hT] at C
    clear hT HE hR hz
    generalize ts.length = n at *
    go_enter Try.func36, Try.ntmps36
    go_wp2_with fail
    refine C.out.mono ?_
    rintro e w1 ⟨rfl, hb1⟩
    have HB1 := hid hb1
    clear hb1 C
    go_wp2_with fail
    go_ret2
    exact TreeAns.none HB1.out
  | true =>
    have HG := hid (show pruneT ts x = if pruneB ts x then cutL ts x.toNat (endN ts x.toNat) else ts by unfold pruneT; rw [hT]; rfl)
    rw [HG.out]
    rw [hT] at C
    by_cases hin : 1 ≤ x ∧ x < (ts.length : Int)
    case neg =>
      have HV := hid (show pruneB ts x = false by
        unfold pruneB
        rw [Bool.and_eq_false_iff]
        left
        rw [Bool.and_eq_false_iff]
        by_cases h : 1 ≤ x
        · exact .inr (decide_eq_false (fun h' => hin ⟨h, h'⟩))
        · exact .inl (decide_eq_false h))
      rw [HV.out]
      show Calls _ _ _ _ (TreeAns w ts false)
      obtain ⟨n, hnn⟩ : ∃ n, ts.length = n := ⟨_, rfl⟩
      rw [hnn] at C CC hin ⊢
      cases h1 : decide (x < 1) with
      | true =>
        clear hT HG HV hR hz hin hnn hc hn
        go_enter Try.func36, Try.ntmps36
        go_wp2_with fail
        refine C.out.mono ?_
        rintro e w1 ⟨rfl, hb1⟩
        have HB1 := hid hb1
        clear hb1 C
        go_wp2_with fail
        refine (CC.out _ (HR.out.below HB1.out)).mono ?_
        rintro e w3 ⟨v3, rfl, hr3⟩
        have HR3 := hid (RowOf.later HB1.out hr3)
        clear hr3 CC
        go_wp2_with fail
        go_ret2
        exact ⟨_, rfl, HR3.out⟩
      | false =>
        have h2 : decide ((n : Int) ≤ x) = true := decide_eq_true (by have := of_decide_eq_false h1; omega)
        clear hT HG HV hR hz hin hnn hc hn
        go_enter Try.func36, Try.ntmps36
        go_wp2_with fail
        refine C.out.mono ?_
        rintro e w1 ⟨rfl, hb1⟩
        have HB1 := hid hb1
        clear hb1 C
        go_wp2_with fail
        refine (CC.out _ (HR.out.below HB1.out)).mono ?_
        rintro e w3 ⟨v3, rfl, hr3⟩
        have HR3 := hid (RowOf.later HB1.out hr3)
        clear hr3 CC
        go_wp2_with fail
        go_ret2
        exact ⟨_, rfl, HR3.out⟩
    obtain ⟨k, rfl⟩ : ∃ k : Nat, x = (k : Int) := ⟨x.toNat, by omega⟩
    have hTP : TreeP ts := by unfold treeB at hT; simpa using hT
    have hk : k < ts.length := by omega
    have hk1 : 1 ≤ k := by omega
    have HGB := hid (show pruneB ts (k : Int) = treeB (cutL ts k (endN ts k)) by unfold pruneB; rw [hT, decide_eq_true hin.1, decide_eq_true hin.2]; rfl)
    rw [HGB.out]
    show Calls _ _ _ _ (TreeAns w (if treeB (cutL ts k (endN ts k)) then cutL ts k (endN ts k) else ts) _)
    have hle := endN_le hk
    have CL := hid (fun wx (h : TkRow wx a ts) => cEndS a cap ts k wx h hk hn)
    have CP := hid (fun wx (h : TkRow wx a ts) => cCutL a cap ts k wx h hTP hk hk1 hc hcm hz)
    have HPN := hid (show (cutL ts k (endN ts k)).length ≤ 1048576 from Nat.le_trans (cutL_len (by omega) hle.2) hn)
    have HPZ := hid (cutL_sz (a := k) (e := endN ts k) hTP hz)
    obtain ⟨P, hP⟩ : ∃ P, cutL ts k (endN ts k) = P := ⟨_, rfl⟩
    rw [hP] at CP HPN HPZ ⊢
    have CQ := hid (fun wx aP cP (h : TkRow wx aP P) => cTreeOkS aP cP P wx h HPN.out HPZ.out)
    obtain ⟨B, hBB⟩ : ∃ B, treeB P = B := ⟨_, rfl⟩
    rw [hBB] at CQ ⊢
    have q1 : decide ((k : Int) < 1) = false := decide_eq_false (by omega)
    have q2 : decide ((ts.length : Int) ≤ (k : Int)) = false := decide_eq_false (by omega)
    have q3 : ¬ (k : Int) < 1 := by omega
    have q4 : ¬ (ts.length : Int) ≤ (k : Int) := by omega
    clear hT HG HGB hR hz hP hBB hTP hin hc hn
    generalize endN ts k = E at *
    generalize ts.length = n at *
    obtain ⟨R, hRR⟩ : ∃ R, (if B = true then P else ts) = R := ⟨_, rfl⟩
    have HRR := hid hRR
    rw [hRR]
    clear hRR
    go_enter Try.func36, Try.ntmps36
    go_wp2_with fail
    refine C.out.mono ?_
    rintro e w1 ⟨rfl, hb1⟩
    have HB1 := hid hb1
    clear hb1 C
    go_wp2_with fail
    refine (CL.out _ (HR.out.below HB1.out)).mono ?_
    rintro e w2 ⟨rfl, rfl⟩
    go_wp2_with fail
    refine (CP.out _ (HR.out.below HB1.out)).mono ?_
    rintro e w5 ⟨v5, rfl, hr5⟩
    have HR5 := hid (RowOf.later HB1.out hr5)
    obtain ⟨a5, c5, hv5, ht5⟩ := hr5.tk
    subst hv5
    have HT5 := hid ht5
    clear hr5 CP ht5
    obtain ⟨pn, hpn⟩ : ∃ pn, P.length = pn := ⟨_, rfl⟩
    rw [hpn] at CQ HR5 ⊢
    clear hpn
    go_wp2_with fail
    refine (CQ.out _ _ _ HT5.out).mono ?_
    rintro e w6 ⟨rfl, hb6⟩
    have HB6 := hid (bb HR5.out.bel hb6)
    have HR6 := hid (HR5.out.below hb6)
    clear hb6 CQ
    cases B with
    | false =>
      have HF := hid (show R = ts from HRR.out.symm)
      go_wp2_with fail
      refine (CC.out _ (HR.out.below HB6.out)).mono ?_
      rintro e w7 ⟨v7, rfl, hr7⟩
      have HR7 := hid (RowOf.later HB6.out hr7)
      clear hr7 CC
      go_wp2_with fail
      go_ret2
      exact ⟨_, rfl, by rw [HF.out]; exact HR7.out⟩
    | true =>
      have HF := hid (show R = P from HRR.out.symm)
      go_wp2_with fail
      go_ret2
      exact ⟨_, rfl, by rw [HF.out]; exact HR6.out⟩

end Go.Proofs.Ytkejmifkjgpdjaa

namespace Go.Proofs.Ytkejmifkjgpdjaa
open Go.RowKit
set_option linter.unusedVariables false

section
variable {ts br : List Tk} {e : Nat} {par : Int}

/-- Who is whose parent, in what is put in. -/
def inF (e : Nat) (par : Int) (i : Nat) (t : Tk) : Int := if i = 0 then par else t.kind + (e : Int)

/-- .. and behind it. -/
def outF (e m : Nat) (t : Tk) : Int := if (e : Int) ≤ t.kind then t.kind + (m : Int) else t.kind

theorem put_low (he : e ≤ ts.length) {i : Nat} (hi : i < e) {t : Tk} (ht : ts[i]? = some t) : (putL ts e par br)[i]? = some t := by
  unfold putL
  have h1 : (segN (fun _ t => t.kind) ts 0 e).length = e := segN_len _ (by omega)
  rw [List.append_assoc, List.getElem?_append_left (by rw [h1]; exact hi), segN_get _ (by omega) i hi t (by rw [Nat.zero_add]; exact ht)]
  rfl

theorem put_mid (he : e ≤ ts.length) {i : Nat} (hi : i < br.length) {t : Tk} (ht : br[i]? = some t) : (putL ts e par br)[e + i]? = some (shK (inF e par i t) t) := by
  unfold putL
  have h1 : (segN (fun _ t => t.kind) ts 0 e).length = e := segN_len _ (by omega)
  have h2 : (segN (fun i t => if i = 0 then par else t.kind + (e : Int)) br 0 br.length).length = br.length := segN_len _ (by omega)
  rw [List.getElem?_append_left (by rw [List.length_append, h1, h2]; omega), List.getElem?_append_right (by rw [h1]; omega), h1, show e + i - e = i by omega, segN_get _ (by omega) i hi t (by rw [Nat.zero_add]; exact ht), Nat.zero_add]
  rfl

theorem put_high (he : e ≤ ts.length) {i : Nat} (hi : e ≤ i) (hn : i < ts.length) {t : Tk} (ht : ts[i]? = some t) : (putL ts e par br)[i + br.length]? = some (shK (outF e br.length t) t) := by
  unfold putL
  have h1 : (segN (fun _ t => t.kind) ts 0 e).length = e := segN_len _ (by omega)
  have h2 : (segN (fun i t => if i = 0 then par else t.kind + (e : Int)) br 0 br.length).length = br.length := segN_len _ (by omega)
  rw [List.getElem?_append_right (by rw [List.length_append, h1, h2]; omega), List.length_append, h1, h2, show i + br.length - (e + br.length) = i - e by omega, segN_get _ (by omega) (i - e) (by omega) t (by rw [show e + (i - e) = i by omega]; exact ht)]
  rfl

/-- What was put in ends where it ended. -/
theorem put_end (he : e ≤ ts.length) (hB : TreeP br) (hn : ∀ t, ts[e]? = some t → t.kind < (e : Int)) : endN (putL ts e par br) e = e + br.length := by
  have hl : (putL ts e par br).length = ts.length + br.length := putL_len he
  have hb1 := hB.1
  refine endN_is (by omega) (by omega) (fun j h1 h2 => ?_) ?_
  · obtain ⟨i, rfl⟩ : ∃ i, j = e + i := ⟨j - e, by omega⟩
    have hi : i < br.length := by omega
    have ht := List.getElem?_eq_getElem hi
    unfold parI
    rw [put_mid he hi ht]
    show (e : Int) ≤ inF e par i br[i]
    unfold inF
    rw [if_neg (by omega)]
    rcases (hB.2.2.2.2 i hi).2.1 with h0 | ⟨p, _, hp, _⟩
    · omega
    · rw [parI_at hi] at hp
      omega
  · by_cases h : e = ts.length
    · left; omega
    · right
      have ht := List.getElem?_eq_getElem (show e < ts.length by omega)
      unfold parI
      rw [put_high he (Nat.le_refl _) (by omega) ht]
      have := hn _ ht
      show outF e br.length ts[e] < (e : Int)
      unfold outF
      rw [if_neg (by omega)]
      exact this

/-- What was put in is there. -/
theorem put_branch (he : e ≤ ts.length) (hB : TreeP br) (hn : ∀ t, ts[e]? = some t → t.kind < (e : Int)) : branchL (putL ts e par br) e = br := by
  have hl : (putL ts e par br).length = ts.length + br.length := putL_len he
  have hb1 := hB.1
  have hek : e < (putL ts e par br).length := by omega
  have hend := put_end (par := par) he hB hn
  have hlen := branchL_len hek
  rw [hend] at hlen
  apply List.ext_getElem?
  intro j
  by_cases hj : j < br.length
  · have ht := List.getElem?_eq_getElem hj
    rw [branch_at hek (j := j) (by rw [hend]; omega) (put_mid he hj ht), ht]
    congr 1
    unfold shK inF
    by_cases h0 : j = 0
    · subst h0
      rw [if_pos rfl]
      have := hB.2.2.1
      rw [parI_at hj] at this
      rw [← this]
    · rw [if_neg h0, if_neg h0]
      have e1 : br[j].kind + (e : Int) - (e : Int) = br[j].kind := by omega
      show (⟨br[j].kind + (e : Int) - (e : Int), br[j].name, br[j].attrs, br[j].text⟩ : Tk) = br[j]
      rw [e1]
  · rw [List.getElem?_eq_none (by omega), List.getElem?_eq_none (by omega)]

end

end Go.Proofs.Ytkejmifkjgpdjaa
