/- Contract of the specification's Pruned. What was put in is there (mathematics alone). Contract of the specification's Wrapped. -/
import Derived.Test.YtikplfghepojiaaM14
import Derived.Test.YtikplfghepojiaaM12
import Derived.Test.YtikplfghepojiaaM13
import Derived.Test.YtikplfghepojiaaM11
namespace Go.Proofs.Ytikplfghepojiaa
open Go.RowKit
set_option linter.unusedVariables false
set_option linter.unusedSimpArgs false

theorem outC_sz {ts : List Tk} {a e i b : Nat} (h : TksSz b ts) : TksSz b (outC ts a e i) := by
  intro t ht
  unfold outC at ht
  rcases List.mem_append.1 ht with h' | h'
  · exact h t (List.mem_of_mem_take h')
  · exact segN_sz h _ t h'

theorem text_of {ts : List Tk} (hT : TreeP ts) {k : Nat} {t : Tk} (h : ts[k]? = some t) : t.text.size ≤ 60 := by
  have := tree_text hT k
  unfold textAt at this
  rw [h] at this
  exact this

theorem cutL_sz {ts : List Tk} {a e : Nat} (hT : TreeP ts) (hz : TksSz 1048576 ts) : TksSz 1048576 (cutL ts a e) := by
  cases hs : sideB ts a e with
  | false => rw [cutL_no hs]; exact outC_sz hz
  | true =>
    have hs' := hs
    unfold sideB at hs'
    split at hs'
    · rename_i t u ht hu
      rw [cutL_yes hs ht hu]
      intro x hx
      unfold joinC at hx
      rcases List.mem_append.1 hx with h' | h'
      · rcases List.mem_or_eq_of_mem_set h' with h'' | h''
        · exact hz x (List.mem_of_mem_take h'')
        · subst h''
          obtain ⟨z1, z2, z3, z4⟩ := hz t (List.mem_of_getElem? ht)
          refine ⟨z1, z2, z3, ?_⟩
          have k1 := text_of hT ht
          have k2 := text_of hT hu
          show (t.text ++ u.text).size ≤ _
          rw [ByteArray.size_append]
          omega
      · exact segN_sz hz _ x h'
    · cases hs'

theorem cutL_len {ts : List Tk} {a e : Nat} (hae : a ≤ e) (he : e ≤ ts.length) : (cutL ts a e).length ≤ ts.length := by
  cases hs : sideB ts a e with
  | false =>
    rw [cutL_no hs, outC_len hae he (Nat.le_refl _)]
    omega
  | true =>
    have hs' := hs
    unfold sideB at hs'
    split at hs'
    · rename_i t u ht hu
      rw [cutL_yes hs ht hu]
      unfold joinC
      have hel : e < ts.length := by
        rcases Nat.lt_or_ge e ts.length with h' | h'
        · exact h'
        · rw [List.getElem?_eq_none h'] at hu; cases hu
      rw [List.length_append, List.length_set, List.length_take, segN_len _ (by omega)]
      omega
    · cases hs'

/-- Pruned: the tree, and whether. -/
noncomputable def pruneB (ts : List Tk) (x : Int) : Bool := (decide (1 ≤ x) && decide (x < (ts.length : Int))) && (treeB ts && treeB (cutL ts x.toNat (endN ts x.toNat)))

noncomputable def pruneT (ts : List Tk) (x : Int) : List Tk := if treeB ts then (if pruneB ts x then cutL ts x.toNat (endN ts x.toNat) else ts) else []

set_option maxRecDepth 4000 in
set_option maxHeartbeats 4000000 in
theorem cPrunedS (a : Option Addr) (cap : Nat) (ts : List Tk) (x : Int) (w : World) (hR : TkRow w a ts) (hc : ts.length ≤ cap) (hcm : cap ≤ maxLen) (hn : ts.length ≤ 1048576) (hz : TksSz 1048576 ts) :
    Calls Try.prog 14 #[.slice a ts.length cap, .int .i64 x] w (TreeAns w (pruneT ts x) (pruneB ts x)) := by
  have C := hid (cTreeOkS a cap ts w hR hn hz)
  have HR := hid hR
  have CC := hid (fun wx (h : TkRow wx a ts) => cCopyT a cap ts wx h hn hz)
  cases hT : treeB ts with
  | false =>
    have HE := hid (And.intro (show pruneT ts x = [] by unfold pruneT; rw [hT]; rfl) (show pruneB ts x = false by unfold pruneB; rw [hT, Bool.false_and, Bool.and_false]))
    rw [HE.out.1, HE.out.2]
    rw [hT] at C
    clear hT HE hR hz
    generalize ts.length = n at *
    go_enter Try.func14, Try.ntmps14
    go_wp2_with fail
    refine C.out.mono ?_
    rintro e w1 ⟨rfl, hb1⟩
    have HB1 := hid hb1
    clear hb1 C
    go_wp2_with fail
    go_ret2
    exact TreeAns.none HB1.out
  | true =>
    have HG := hid (show pruneT ts x = if pruneB ts x then cutL ts x.toNat (endN ts x.toNat) else ts by unfold pruneT; rw [hT]; rfl)
    rw [HG.out]
    rw [hT] at C
    by_cases hin : 1 ≤ x ∧ x < (ts.length : Int)
    case neg =>
      have HV := hid (show pruneB ts x = false by
        unfold pruneB
        rw [Bool.and_eq_false_iff]
        left
        rw [Bool.and_eq_false_iff]
        by_cases h : 1 ≤ x
        · exact .inr (decide_eq_false (fun h' => hin ⟨h, h'⟩))
        · exact .inl (decide_eq_false h))
      rw [HV.out]
      show Calls _ _ _ _ (TreeAns w ts false)
      obtain ⟨n, hnn⟩ : ∃ n, ts.length = n := ⟨_, rfl⟩
      rw [hnn] at C CC hin ⊢
      cases h1 : decide (x < 1) with
      | true =>
        clear hT HG HV hR hz hin hnn hc hn
        go_enter Try.func14, Try.ntmps14
        go_wp2_with fail
        refine C.out.mono ?_
        rintro e w1 ⟨rfl, hb1⟩
        have HB1 := hid hb1
        clear hb1 C
        go_wp2_with fail
        refine (CC.out _ (HR.out.below HB1.out)).mono ?_
        rintro e w3 ⟨v3, rfl, hr3⟩
        have HR3 := hid (RowOf.later HB1.out hr3)
        clear hr3 CC
        go_wp2_with fail
        go_ret2
        exact ⟨_, rfl, HR3.out⟩
      | false =>
        have h2 : decide ((n : Int) ≤ x) = true := decide_eq_true (by have := of_decide_eq_false h1; omega)
        clear hT HG HV hR hz hin hnn hc hn
        go_enter Try.func14, Try.ntmps14
        go_wp2_with fail
        refine C.out.mono ?_
        rintro e w1 ⟨rfl, hb1⟩
        have HB1 := hid hb1
        clear hb1 C
        go_wp2_with fail
        refine (CC.out _ (HR.out.below HB1.out)).mono ?_
        rintro e w3 ⟨v3, rfl, hr3⟩
        have HR3 := hid (RowOf.later HB1.out hr3)
        clear hr3 CC
        go_wp2_with fail
        go_ret2
        exact ⟨_, rfl, HR3.out⟩
    obtain ⟨k, rfl⟩ : ∃ k : Nat, x = (k : Int) := ⟨x.toNat, by omega⟩
    have hTP : TreeP ts := by unfold treeB at hT; simpa using hT
    have hk : k < ts.length := by omega
    have hk1 : 1 ≤ k := by omega
    have HGB := hid (show pruneB ts (k : Int) = treeB (cutL ts k (endN ts k)) by unfold pruneB; rw [hT, decide_eq_true hin.1, decide_eq_true hin.2]; rfl)
    rw [HGB.out]
    show Calls _ _ _ _ (TreeAns w (if treeB (cutL ts k (endN ts k)) then cutL ts k (endN ts k) else ts) _)
    have hle := endN_le hk
    have CL := hid (fun wx (h : TkRow wx a ts) => cEndS a cap ts k wx h hk hn)
    have CP := hid (fun wx (h : TkRow wx a ts) => cCutL a cap ts k wx h hTP hk hk1 hc hcm hz)
    have HPN := hid (show (cutL ts k (endN ts k)).length ≤ 1048576 from Nat.le_trans (cutL_len (by omega) hle.2) hn)
    have HPZ := hid (cutL_sz (a := k) (e := endN ts k) hTP hz)
    obtain ⟨P, hP⟩ : ∃ P, cutL ts k (endN ts k) = P := ⟨_, rfl⟩
    rw [hP] at CP HPN HPZ ⊢
    have CQ := hid (fun wx aP cP (h : TkRow wx aP P) => cTreeOkS aP cP P wx h HPN.out HPZ.out)
    obtain ⟨B, hBB⟩ : ∃ B, treeB P = B := ⟨_, rfl⟩
    rw [hBB] at CQ ⊢
    have q1 : decide ((k : Int) < 1) = false := decide_eq_false (by omega)
    have q2 : decide ((ts.length : Int) ≤ (k : Int)) = false := decide_eq_false (by omega)
    have q3 : ¬ (k : Int) < 1 := by omega
    have q4 : ¬ (ts.length : Int) ≤ (k : Int) := by omega
    clear hT HG HGB hR hz hP hBB hTP hin hc hn
    generalize endN ts k = E at *
    generalize ts.length = n at *
    obtain ⟨R, hRR⟩ : ∃ R, (if B = true then P else ts) = R := ⟨_, rfl⟩
    have HRR := hid hRR
    rw [hRR]
    clear hRR
    go_enter Try.func14, Try.ntmps14
    go_wp2_with fail
    refine C.out.mono ?_
    rintro e w1 ⟨rfl, hb1⟩
    have HB1 := hid hb1
    clear hb1 C
    go_wp2_with fail
    refine (CL.out _ (HR.out.below HB1.out)).mono ?_
    rintro e w2 ⟨rfl, rfl⟩
    go_wp2_with fail
    refine (CP.out _ (HR.out.below HB1.out)).mono ?_
    rintro e w5 ⟨v5, rfl, hr5⟩
    have HR5 := hid (RowOf.later HB1.out hr5)
    obtain ⟨a5, c5, hv5, ht5⟩ := hr5.tk
    subst hv5
    have HT5 := hid ht5
    clear hr5 CP ht5
    obtain ⟨pn, hpn⟩ : ∃ pn, P.length = pn := ⟨_, rfl⟩
    rw [hpn] at CQ HR5 ⊢
    clear hpn
    go_wp2_with fail
    refine (CQ.out _ _ _ HT5.out).mono ?_
    rintro e w6 ⟨rfl, hb6⟩
    have HB6 := hid (bb HR5.out.bel hb6)
    have HR6 := hid (HR5.out.below hb6)
    clear hb6 CQ
    cases B with
    | false =>
      have HF := hid (show R = ts from HRR.out.symm)
      go_wp2_with fail
      refine (CC.out _ (HR.out.below HB6.out)).mono ?_
      rintro e w7 ⟨v7, rfl, hr7⟩
      have HR7 := hid (RowOf.later HB6.out hr7)
      clear hr7 CC
      go_wp2_with fail
      go_ret2
      exact ⟨_, rfl, by rw [HF.out]; exact HR7.out⟩
    | true =>
      have HF := hid (show R = P from HRR.out.symm)
      go_wp2_with fail
      go_ret2
      exact ⟨_, rfl, by rw [HF.out]; exact HR6.out⟩

end Go.Proofs.Ytikplfghepojiaa

namespace Go.Proofs.Ytikplfghepojiaa
open Go.RowKit
set_option linter.unusedVariables false

section
variable {ts br : List Tk} {e : Nat} {par : Int}

/-- Who is whose parent, in what is put in. -/
def inF (e : Nat) (par : Int) (i : Nat) (t : Tk) : Int := if i = 0 then par else t.kind + (e : Int)

/-- .. and behind it. -/
def outF (e m : Nat) (t : Tk) : Int := if (e : Int) ≤ t.kind then t.kind + (m : Int) else t.kind

theorem put_low (he : e ≤ ts.length) {i : Nat} (hi : i < e) {t : Tk} (ht : ts[i]? = some t) : (putL ts e par br)[i]? = some t := by
  unfold putL
  have h1 : (segN (fun _ t => t.kind) ts 0 e).length = e := segN_len _ (by omega)
  rw [List.append_assoc, List.getElem?_append_left (by rw [h1]; exact hi), segN_get _ (by omega) i hi t (by rw [Nat.zero_add]; exact ht)]
  rfl

theorem put_mid (he : e ≤ ts.length) {i : Nat} (hi : i < br.length) {t : Tk} (ht : br[i]? = some t) : (putL ts e par br)[e + i]? = some (shK (inF e par i t) t) := by
  unfold putL
  have h1 : (segN (fun _ t => t.kind) ts 0 e).length = e := segN_len _ (by omega)
  have h2 : (segN (fun i t => if i = 0 then par else t.kind + (e : Int)) br 0 br.length).length = br.length := segN_len _ (by omega)
  rw [List.getElem?_append_left (by rw [List.length_append, h1, h2]; omega), List.getElem?_append_right (by rw [h1]; omega), h1, show e + i - e = i by omega, segN_get _ (by omega) i hi t (by rw [Nat.zero_add]; exact ht), Nat.zero_add]
  rfl

theorem put_high (he : e ≤ ts.length) {i : Nat} (hi : e ≤ i) (hn : i < ts.length) {t : Tk} (ht : ts[i]? = some t) : (putL ts e par br)[i + br.length]? = some (shK (outF e br.length t) t) := by
  unfold putL
  have h1 : (segN (fun _ t => t.kind) ts 0 e).length = e := segN_len _ (by omega)
  have h2 : (segN (fun i t => if i = 0 then par else t.kind + (e : Int)) br 0 br.length).length = br.length := segN_len _ (by omega)
  rw [List.getElem?_append_right (by rw [List.length_append, h1, h2]; omega), List.length_append, h1, h2, show i + br.length - (e + br.length) = i - e by omega, segN_get _ (by omega) (i - e) (by omega) t (by rw [show e + (i - e) = i by omega]; exact ht)]
  rfl

/-- What was put in ends where it ended. -/
theorem put_end (he : e ≤ ts.length) (hB : TreeP br) (hn : ∀ t, ts[e]? = some t → t.kind < (e : Int)) : endN (putL ts e par br) e = e + br.length := by
  have hl : (putL ts e par br).length = ts.length + br.length := putL_len he
  have hb1 := hB.1
  refine endN_is (by omega) (by omega) (fun j h1 h2 => ?_) ?_
  · obtain ⟨i, rfl⟩ : ∃ i, j = e + i := ⟨j - e, by omega⟩
    have hi : i < br.length := by omega
    have ht := List.getElem?_eq_getElem hi
    unfold parI
    rw [put_mid he hi ht]
    show (e : Int) ≤ inF e par i br[i]
    unfold inF
    rw [if_neg (by omega)]
    rcases (hB.2.2.2.2 i hi).2.1 with h0 | ⟨p, _, hp, _⟩
    · omega
    · rw [parI_at hi] at hp
      omega
  · by_cases h : e = ts.length
    · left; omega
    · right
      have ht := List.getElem?_eq_getElem (show e < ts.length by omega)
      unfold parI
      rw [put_high he (Nat.le_refl _) (by omega) ht]
      have := hn _ ht
      show outF e br.length ts[e] < (e : Int)
      unfold outF
      rw [if_neg (by omega)]
      exact this

/-- What was put in is there. -/
theorem put_branch (he : e ≤ ts.length) (hB : TreeP br) (hn : ∀ t, ts[e]? = some t → t.kind < (e : Int)) : branchL (putL ts e par br) e = br := by
  have hl : (putL ts e par br).length = ts.length + br.length := putL_len he
  have hb1 := hB.1
  have hek : e < (putL ts e par br).length := by omega
  have hend := put_end (par := par) he hB hn
  have hlen := branchL_len hek
  rw [hend] at hlen
  apply List.ext_getElem?
  intro j
  by_cases hj : j < br.length
  · have ht := List.getElem?_eq_getElem hj
    rw [branch_at hek (j := j) (by rw [hend]; omega) (put_mid he hj ht), ht]
    congr 1
    unfold shK inF
    by_cases h0 : j = 0
    · subst h0
      rw [if_pos rfl]
      have := hB.2.2.1
      rw [parI_at hj] at this
      rw [← this]
    · rw [if_neg h0, if_neg h0]
      have e1 : br[j].kind + (e : Int) - (e : Int) = br[j].kind := by omega
      show (⟨br[j].kind + (e : Int) - (e : Int), br[j].name, br[j].attrs, br[j].text⟩ : Tk) = br[j]
      rw [e1]
  · rw [List.getElem?_eq_none (by omega), List.getElem?_eq_none (by omega)]

end

end Go.Proofs.Ytikplfghepojiaa

namespace Go.Proofs.Ytikplfghepojiaa
open Go.RowKit
set_option linter.unusedVariables false
set_option linter.unusedSimpArgs false

/-- The one that wraps. -/
def wrapN (name : ByteArray) : Tk := ⟨0, name, [], ⟨#[]⟩⟩

/-- A tree with one wrapped. -/
def wrapL (ts : List Tk) (k : Nat) (name : ByteArray) : List Tk := match ts[k]? with
  | some t => (putL ts k t.kind [wrapN name]).set (k + 1) (shK (k : Int) t)
  | none => ts

noncomputable def wrapB (ts : List Tk) (x : Int) (name : ByteArray) : Bool := decide (1 ≤ x) && (elemB ts x && (nameL name.data.toList && treeB (wrapL ts x.toNat name)))

noncomputable def wrapT (ts : List Tk) (x : Int) (name : ByteArray) : List Tk := if treeB ts then (if wrapB ts x name then wrapL ts x.toNat name else ts) else []

theorem wrapL_len {ts : List Tk} {k : Nat} {name : ByteArray} (hk : k < ts.length) : (wrapL ts k name).length = ts.length + 1 := by
  unfold wrapL
  rw [List.getElem?_eq_getElem hk]
  simp only
  rw [List.length_set, putL_len (by omega)]
  rfl

theorem wrapL_sz {ts : List Tk} {k : Nat} {name : ByteArray} (hk : k < ts.length) (hz : TksSz 1048576 ts) (hn : name.size ≤ 1048576) : TksSz 1048576 (wrapL ts k name) := by
  unfold wrapL
  rw [List.getElem?_eq_getElem hk]
  simp only
  intro t ht
  rcases List.mem_or_eq_of_mem_set ht with h' | h'
  · refine put_sz hz (fun u hu => ?_) t h'
    rw [List.mem_singleton] at hu
    subst hu
    exact ⟨hn, Nat.zero_le _, fun y hy => absurd hy List.not_mem_nil, Nat.zero_le _⟩
  · subst h'
    exact hz ts[k] (List.getElem_mem hk)

theorem wrap_row {w : World} {g : Nat} {name : ByteArray} (h : w.heap[g]? = some (.cells #[.int .i64 0, .string name, .slice none 0 0, .string ⟨#[]⟩] 34 (0, 0))) : TkRow w (some ⟨g, 0, none⟩) [wrapN name] := by
  intro j hj
  have hj0 : j = 0 := by simpa using hj
  subst hj0
  obtain ⟨⟨x0, x1, x2, x3⟩, _⟩ := box4 h
  exact ⟨g, 0, none, 0, rfl, lt_of_heap h, x0, x1, x2, x3, fun i hi => absurd hi (Nat.not_lt_zero _)⟩

set_option maxRecDepth 4000 in
set_option maxHeartbeats 4000000 in
theorem cWrappedS (a : Option Addr) (cap : Nat) (ts : List Tk) (x : Int) (name : ByteArray) (w : World) (hR : TkRow w a ts) (hc : ts.length ≤ cap) (hcm : cap ≤ maxLen) (hn : ts.length ≤ 1048576) (hz : TksSz 1048576 ts) (hnm : name.size ≤ 1048576) :
    Calls Try.prog 25 #[.slice a ts.length cap, .int .i64 x, .string name] w (TreeAns w (wrapT ts x name) (wrapB ts x name)) := by
  have C := hid (cTreeOkS a cap ts w hR hn hz)
  have HR := hid hR
  have CC := hid (fun wx (h : TkRow wx a ts) => cCopyT a cap ts wx h hn hz)
  cases hT : treeB ts with
  | false =>
    have HE := hid (And.intro (show wrapT ts x name = [] by unfold wrapT; rw [hT]; rfl) (show wrapB ts x name = false by unfold wrapB; rw [elemB_tree hT, Bool.false_and, Bool.and_false]))
    rw [HE.out.1, HE.out.2]
    rw [hT] at C
    clear hT HE hR hz
    generalize ts.length = n at *
    go_enter Try.func25, Try.ntmps25
    go_wp2_with fail
    refine C.out.mono ?_
    rintro e w1 ⟨rfl, hb1⟩
    have HB1 := hid hb1
    clear hb1 C
    go_wp2_with fail
    go_ret2
    exact TreeAns.none HB1.out
  | true =>
    have CE := hid (fun wx (h : TkRow wx a ts) => c_spec_l9Element a cap ts x wx h hn hz)
    have CN := hid (fun wx => c_spec_NameOk name wx hnm)
    have HG := hid (show wrapT ts x name = if wrapB ts x name then wrapL ts x.toNat name else ts by unfold wrapT; rw [hT]; rfl)
    rw [HG.out]
    rw [hT] at C
    cases h1 : decide (1 ≤ x) with
    | false =>
      have HV := hid (show wrapB ts x name = false by unfold wrapB; rw [h1]; rfl)
      rw [HV.out]
      show Calls _ _ _ _ (TreeAns w ts false)
      have hx1 : decide (x < 1) = true := decide_eq_true (by have := of_decide_eq_false h1; omega)
      clear hT HG HV hR hz CN CE h1
      generalize ts.length = n at *
      go_enter Try.func25, Try.ntmps25
      go_wp2_with fail
      refine C.out.mono ?_
      rintro e w1 ⟨rfl, hb1⟩
      have HB1 := hid hb1
      clear hb1 C
      go_wp2_with fail
      refine (CC.out _ (HR.out.below HB1.out)).mono ?_
      rintro e w3 ⟨v3, rfl, hr3⟩
      have HR3 := hid (RowOf.later HB1.out hr3)
      clear hr3 CC
      go_wp2_with fail
      go_ret2
      exact ⟨_, rfl, HR3.out⟩
    | true =>
      have hx1 : decide (x < 1) = false := decide_eq_false (by have := of_decide_eq_true h1; omega)
      cases hE : elemB ts x with
      | false =>
        have HV := hid (show wrapB ts x name = false by unfold wrapB; rw [hE, Bool.false_and, Bool.and_false])
        rw [HV.out]
        rw [hE] at CE
        show Calls _ _ _ _ (TreeAns w ts false)
        clear hT HG HV hR hz CN h1 hE
        generalize ts.length = n at *
        go_enter Try.func25, Try.ntmps25
        go_wp2_with fail
        refine C.out.mono ?_
        rintro e w1 ⟨rfl, hb1⟩
        have HB1 := hid hb1
        clear hb1 C
        go_wp2_with fail
        refine (CE.out _ (HR.out.below HB1.out)).mono ?_
        rintro e w2 ⟨rfl, hb2⟩
        have HB2 := hid (bb HB1.out hb2)
        clear hb2 CE
        go_wp2_with fail
        refine (CC.out _ (HR.out.below HB2.out)).mono ?_
        rintro e w3 ⟨v3, rfl, hr3⟩
        have HR3 := hid (RowOf.later HB2.out hr3)
        clear hr3 CC
        go_wp2_with fail
        go_ret2
        exact ⟨_, rfl, HR3.out⟩
      | true =>
        rw [hE] at CE
        cases hB : nameL name.data.toList with
        | false =>
          have HV := hid (show wrapB ts x name = false by unfold wrapB; rw [hB, Bool.false_and, Bool.and_false, Bool.and_false])
          rw [HV.out]
          rw [hB] at CN
          show Calls _ _ _ _ (TreeAns w ts false)
          clear hT HG HV hR hz h1 hE hB
          generalize ts.length = n at *
          go_enter Try.func25, Try.ntmps25
          go_wp2_with fail
          refine C.out.mono ?_
          rintro e w1 ⟨rfl, hb1⟩
          have HB1 := hid hb1
          clear hb1 C
          go_wp2_with fail
          refine (CE.out _ (HR.out.below HB1.out)).mono ?_
          rintro e w2 ⟨rfl, hb2⟩
          have HB2 := hid (bb HB1.out hb2)
          clear hb2 CE
          go_wp2_with fail
          refine (CN.out _).mono ?_
          rintro e w3 ⟨rfl, hb3⟩
          have HB3 := hid (bb HB2.out hb3)
          clear hb3 CN
          go_wp2_with fail
          refine (CC.out _ (HR.out.below HB3.out)).mono ?_
          rintro e w4 ⟨v4, rfl, hr4⟩
          have HR4 := hid (RowOf.later HB3.out hr4)
          clear hr4 CC
          go_wp2_with fail
          go_ret2
          exact ⟨_, rfl, HR4.out⟩
        | true =>
          rw [hB] at CN
          obtain ⟨hTP, k, rfl, hk⟩ := elemB_t hE
          have hk1 : 1 ≤ k := by have := of_decide_eq_true h1; omega
          have htk := seg_of hk
          have hkb := tree_kind hTP htk
          have CP := hid (fun wx g (h : TkRow wx a ts) (h2 : TkRow wx (some ⟨g, 0, none⟩) [wrapN name]) => cPutL a (some ⟨g, 0, none⟩) cap 1 ts [wrapN name] k ts[k].kind wx h h2 (tree_kindB hTP) (fun u hu => by rw [List.mem_singleton] at hu; subst hu; exact ⟨(by show (-1 : Int) ≤ 0; decide), (by show (0 : Int) < 50; decide)⟩) (by omega) hc hcm hTP.2.1 (by simp) hz (fun u hu => by rw [List.mem_singleton] at hu; subst hu; exact ⟨hnm, Nat.zero_le _, fun y hy => absurd hy List.not_mem_nil, Nat.zero_le _⟩))
          have HPK := hid (put_high (ts := ts) (br := [wrapN name]) (e := k) (par := ts[k].kind) (by omega) (Nat.le_refl _) hk htk)
          have HPN := hid (putL_len (ts := ts) (place := k) (parent := ts[k].kind) (br := [wrapN name]) (by omega))
          have HWL := hid (show wrapL ts k name = (putL ts k ts[k].kind [wrapN name]).set (k + 1) (shK (k : Int) ts[k]) by unfold wrapL; rw [htk])
          have HGB := hid (show wrapB ts (k : Int) name = treeB (wrapL ts k name) by unfold wrapB; rw [h1, hE, hB]; rfl)
          have HWN := hid (show (wrapL ts k name).length ≤ 1048576 by rw [wrapL_len hk]; have := hTP.2.1; omega)
          have HWZ := hid (wrapL_sz hk hz hnm)
          rw [HGB.out]
          show Calls _ _ _ _ (TreeAns w (if treeB (wrapL ts k name) then wrapL ts k name else ts) _)
          obtain ⟨P, hP⟩ : ∃ P, wrapL ts k name = P := ⟨_, rfl⟩
          rw [hP] at HWN HWZ HWL ⊢
          have CQ := hid (fun wx aP cP (h : TkRow wx aP P) => cTreeOkS aP cP P wx h HWN.out HWZ.out)
          obtain ⟨B, hBB⟩ : ∃ B, treeB P = B := ⟨_, rfl⟩
          rw [hBB] at CQ ⊢
          have HROW := hid (fun wx (hb : Below w.heap.size w wx) => (HR.out.below hb).kindAt k hk)
          obtain ⟨b, o, ea, -⟩ := HR.out.kindAt k hk
          subst ea
          have HLEN := hid (show (putL ts k ts[k].kind [wrapN name]).length = ts.length + 1 from HPN.out)
          obtain ⟨Q0, hQ0⟩ : ∃ Q0, putL ts k ts[k].kind [wrapN name] = Q0 := ⟨_, rfl⟩
          rw [hQ0] at CP HPK HWL HLEN
          have e0 : parI ts k = ts[k].kind := parI_at hk
          rw [e0] at HROW
          obtain ⟨t, ht⟩ : ∃ t, ts[k] = t := ⟨_, rfl⟩
          rw [ht] at CP HPK HWL HROW hkb
          have hkn : (k : Int) < (ts.length : Int) := by omega
          have h50 : ts.length ≤ 50 := hTP.2.1
          clear hT HG HGB hR hz hP hBB hE hB hTP htk ht hQ0 h1 HPN e0 hc hcm hn
          obtain ⟨n, hnn⟩ : ∃ n, ts.length = n := ⟨_, rfl⟩
          rw [hnn] at C CE CC CP HLEN hkn h50 hk ⊢
          clear hnn
          obtain ⟨R, hRR⟩ : ∃ R, (if B = true then P else ts) = R := ⟨_, rfl⟩
          have HRR := hid hRR
          rw [hRR]
          clear hRR
          obtain ⟨K, hK⟩ : ∃ K, t.kind = K := ⟨_, rfl⟩
          rw [hK] at CP HROW hkb
          obtain ⟨hkb1, hkb2⟩ := hkb
          have CP1 := hid (fun wx g h h2 => CP.out wx g h h2)
          have hone : ([wrapN name] : List Tk).length = 1 := rfl
          rw [hone] at CP1
          go_enter Try.func25, Try.ntmps25
          go_wp2_with fail
          refine C.out.mono ?_
          rintro e w1 ⟨rfl, hb1⟩
          have HB1 := hid hb1
          clear hb1 C
          go_wp2_with fail
          refine (CE.out _ (HR.out.below HB1.out)).mono ?_
          rintro e w2 ⟨rfl, hb2⟩
          have HB2 := hid (bb HB1.out hb2)
          clear hb2 CE
          go_wp2_with fail
          refine (CN.out _).mono ?_
          rintro e w3 ⟨rfl, hb3⟩
          have HB3 := hid (bb HB2.out hb3)
          clear hb3 CN
          obtain ⟨b', o', e', c0, _⟩ := HROW.out _ HB3.out
          obtain ⟨rfl, rfl⟩ : b = b' ∧ o = o' := by cases e'; exact ⟨rfl, rfl⟩
          have HB4 := hid (HB3.out.alloc HB3.out.size (.cells #[.int .i64 0, .string name, .slice none 0 0, .string ⟨#[]⟩] 34))
          have HW4 := hid (wrap_row (heap_alloc_new w3 (.cells #[.int .i64 0, .string name, .slice none 0 0, .string ⟨#[]⟩] 34)))
          clear e'
          go_wp2_with fail
          refine (CP1.out _ _ (HR.out.below HB4.out) HW4.out).mono ?_
          rintro e w5 ⟨v5, rfl, hr5⟩
          have HR5 := hid (RowOf.later HB4.out hr5)
          obtain ⟨g, c5, hv5, hg5, ⟨aa, ca, d0, d1, d2, d3⟩, hfz, hset, _⟩ := HR5.out.put HPK.out
          subst hv5
          have f0 := hfz ((k + 1) * 4)
          have HS := hid (hset (k : Int))
          have hone2 : k + ([wrapN name] : List Tk).length = k + 1 := rfl
          rw [hone2] at d0 HS
          have HS2 := hid (show RowOf w (w5.setCell ⟨g, (k + 1) * 4, none⟩ (.int .i64 (k : Int))) (.slice (some ⟨g, 0, none⟩) Q0.length c5) P by rw [HWL.out]; exact HS.out)
          rw [HLEN.out] at HS2 ⊢
          clear hr5 CP CP1 d1 d2 d3 hfz hset HS HB4 HW4 c0
          obtain ⟨w6, hw6⟩ : ∃ w6, w5.setCell ⟨g, (k + 1) * 4, none⟩ (.int .i64 (k : Int)) = w6 := ⟨_, rfl⟩
          rw [hw6] at HS2
          obtain ⟨a6, c6, hv6, ht6⟩ := HS2.out.tk
          obtain ⟨rfl, hpl, rfl⟩ : some ⟨g, 0, none⟩ = a6 ∧ n + 1 = P.length ∧ c5 = c6 := by injection hv6 with h1 h2 h3; exact ⟨h1, h2, h3⟩
          rw [← hpl] at CQ
          have HT6 := hid ht6
          clear hv6 ht6 hpl
          have hk2 : (k : Int) + 1 < (n : Int) + 1 := by omega
          go_wp2_with fail
          refine (CQ.out _ _ _ HT6.out).mono ?_
          rintro e w7 ⟨rfl, hb7⟩
          have HB7 := hid (bb HS2.out.bel hb7)
          have HR7 := hid (HS2.out.below hb7)
          clear hb7 CQ d0 f0 hw6
          cases B with
          | false =>
            have HF := hid (show R = ts from HRR.out.symm)
            go_wp2_with fail
            refine (CC.out _ (HR.out.below HB7.out)).mono ?_
            rintro e w8 ⟨v8, rfl, hr8⟩
            have HR8 := hid (RowOf.later HB7.out hr8)
            clear hr8 CC
            go_wp2_with fail
            go_ret2
            exact ⟨_, rfl, by rw [HF.out]; exact HR8.out⟩
          | true =>
            have HF := hid (show R = P from HRR.out.symm)
            go_wp2_with fail
            go_ret2
            exact ⟨_, rfl, by rw [HF.out]; exact HR7.out⟩

end Go.Proofs.Ytikplfghepojiaa
