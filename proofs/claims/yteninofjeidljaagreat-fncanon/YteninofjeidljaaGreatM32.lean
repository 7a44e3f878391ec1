/- Contracts of the specification's Grafted and Wrapped. Contract of the specification's Pruned. What FnCanon asks of what is written in the one way (mathematics alone). Contracts of impl.readSign: what readL reads. -/
import Derived.Test.YteninofjeidljaaGreatM31
import Derived.Test.YteninofjeidljaaGreatM3
import Derived.Test.YteninofjeidljaaGreatM9
import Derived.Test.YteninofjeidljaaGreatM28
import Derived.Test.YteninofjeidljaaGreatM30
import Derived.Test.YteninofjeidljaaGreatM29
import Derived.Test.YteninofjeidljaaGreatM27
import Derived.Test.YteninofjeidljaaGreatRows
import Derived.Test.YteninofjeidljaaGreatM5
import Derived.Test.YteninofjeidljaaGreatM6
import Derived.WalkKit
namespace Go.Proofs.YteninofjeidljaaGreat

open Go.RowKit

set_option linter.unusedVariables false

set_option linter.unusedSimpArgs false

end Go.Proofs.YteninofjeidljaaGreat

namespace Go.Proofs.YteninofjeidljaaGreat

open Go.RowKit

set_option linter.unusedVariables false

set_option linter.unusedSimpArgs false

theorem outC_sz {ts : List Tk} {a e i b : Nat} (h : TksSz b ts) : TksSz b (outC ts a e i) := by
  intro t ht
  unfold outC at ht
  rcases List.mem_append.1 ht with h' | h'
  · exact h t (List.mem_of_mem_take h')
  · exact segN_sz h _ t h'

theorem text_of {ts : List Tk} (hT : TreeP ts) {k : Nat} {t : Tk} (h : ts[k]? = some t) : t.text.size ≤ 60 := by
  have := tree_text hT k
  unfold textAt at this
  rw [h] at this
  exact this

theorem cutL_sz {ts : List Tk} {a e : Nat} (hT : TreeP ts) (hz : TksSz 1048576 ts) : TksSz 1048576 (cutL ts a e) := by
  cases hs : sideB ts a e with
  | false => rw [cutL_no hs]; exact outC_sz hz
  | true =>
    have hs' := hs
    unfold sideB at hs'
    split at hs'
    · rename_i t u ht hu
      rw [cutL_yes hs ht hu]
      intro x hx
      unfold joinC at hx
      rcases List.mem_append.1 hx with h' | h'
      · rcases List.mem_or_eq_of_mem_set h' with h'' | h''
        · exact hz x (List.mem_of_mem_take h'')
        · subst h''
          obtain ⟨z1, z2, z3, z4⟩ := hz t (List.mem_of_getElem? ht)
          refine ⟨z1, z2, z3, ?_⟩
          have k1 := text_of hT ht
          have k2 := text_of hT hu
          show (t.text ++ u.text).size ≤ _
          rw [ByteArray.size_append]
          omega
      · exact segN_sz hz _ x h'
    · cases hs'

theorem cutL_len {ts : List Tk} {a e : Nat} (hae : a ≤ e) (he : e ≤ ts.length) : (cutL ts a e).length ≤ ts.length := by
  cases hs : sideB ts a e with
  | false =>
    rw [cutL_no hs, outC_len hae he (Nat.le_refl _)]
    omega
  | true =>
    have hs' := hs
    unfold sideB at hs'
    split at hs'
    · rename_i t u ht hu
      rw [cutL_yes hs ht hu]
      unfold joinC
      have hel : e < ts.length := by
        rcases Nat.lt_or_ge e ts.length with h' | h'
        · exact h'
        · rw [List.getElem?_eq_none h'] at hu; cases hu
      rw [List.length_append, List.length_set, List.length_take, segN_len _ (by omega)]
      omega
    · cases hs'

/-- Pruned: the tree, and whether. -/
noncomputable def pruneB (ts : List Tk) (x : Int) : Bool := (decide (1 ≤ x) && decide (x < (ts.length : Int))) && (treeB ts && treeB (cutL ts x.toNat (endN ts x.toNat)))

noncomputable def pruneT (ts : List Tk) (x : Int) : List Tk := if treeB ts then (if pruneB ts x then cutL ts x.toNat (endN ts x.toNat) else ts) else []

set_option maxRecDepth 4000 in
set_option maxHeartbeats 4000000 in
theorem cPrunedS (a : Option Addr) (cap : Nat) (ts : List Tk) (x : Int) (w : World) (hR : TkRow w a ts) (hc : ts.length ≤ cap) (hcm : cap ≤ maxLen) (hn : ts.length ≤ 1048576) (hz : TksSz 1048576 ts) :
    Calls Tryz.prog 29 #[.slice a ts.length cap, .int .i64 x] w (TreeAns w (pruneT ts x) (pruneB ts x)) := by
  have C := hid (cTreeOkS a cap ts w hR hn hz)
  have HR := hid hR
  have CC := hid (fun wx (h : TkRow wx a ts) => cCopyT a cap ts wx h hn hz)
  cases hT : treeB ts with
  | false =>
    have HE := hid (And.intro (show pruneT ts x = [] by unfold pruneT; rw [hT]; rfl) (show pruneB ts x = false by unfold pruneB; rw [hT, Bool.false_and, Bool.and_false]))
    rw [HE.out.1, HE.out.2]
    rw [hT] at C
    clear hT HE hR hz
    generalize ts.length = n at *
    go_enter Tryz.func29, Tryz.ntmps29
    go_wp2_with fail
    refine C.out.mono ?_
    rintro e w1 ⟨rfl, hb1⟩
    have HB1 := hid hb1
    clear hb1 C
    go_wp2_with fail
    go_ret2
    exact TreeAns.none HB1.out
  | true =>
    have HG := hid (show pruneT ts x = if pruneB ts x then cutL ts x.toNat (endN ts x.toNat) else ts by unfold pruneT; rw [hT]; rfl)
    rw [HG.out]
    rw [hT] at C
    by_cases hin : 1 ≤ x ∧ x < (ts.length : Int)
    case neg =>
      have HV := hid (show pruneB ts x = false by
        unfold pruneB
        rw [Bool.and_eq_false_iff]
        left
        rw [Bool.and_eq_false_iff]
        by_cases h : 1 ≤ x
        · exact .inr (decide_eq_false (fun h' => hin ⟨h, h'⟩))
        · exact .inl (decide_eq_false h))
      rw [HV.out]
      show Calls _ _ _ _ (TreeAns w ts false)
      obtain ⟨n, hnn⟩ : ∃ n, ts.length = n := ⟨_, rfl⟩
      rw [hnn] at C CC hin ⊢
      cases h1 : decide (x < 1) with
      | true =>
        clear hT HG HV hR hz hin hnn hc hn
        go_enter Tryz.func29, Tryz.ntmps29
        go_wp2_with fail
        refine C.out.mono ?_
        rintro e w1 ⟨rfl, hb1⟩
        have HB1 := hid hb1
        clear hb1 C
        go_wp2_with fail
        refine (CC.out _ (HR.out.below HB1.out)).mono ?_
        rintro e w3 ⟨v3, rfl, hr3⟩
        have HR3 := hid (RowOf.later HB1.out hr3)
        clear hr3 CC
        go_wp2_with fail
        go_ret2
        exact ⟨_, rfl, HR3.out⟩
      | false =>
        have h2 : decide ((n : Int) ≤ x) = true := decide_eq_true (by have := of_decide_eq_false h1; omega)
        clear hT HG HV hR hz hin hnn hc hn
        go_enter Tryz.func29, Tryz.ntmps29
        go_wp2_with fail
        refine C.out.mono ?_
        rintro e w1 ⟨rfl, hb1⟩
        have HB1 := hid hb1
        clear hb1 C
        go_wp2_with fail
        refine (CC.out _ (HR.out.below HB1.out)).mono ?_
        rintro e w3 ⟨v3, rfl, hr3⟩
        have HR3 := hid (RowOf.later HB1.out hr3)
        clear hr3 CC
        go_wp2_with fail
        go_ret2
        exact ⟨_, rfl, HR3.out⟩
    obtain ⟨k, rfl⟩ : ∃ k : Nat, x = (k : Int) := ⟨x.toNat, by omega⟩
    have hTP : TreeP ts := by unfold treeB at hT; simpa using hT
    have hk : k < ts.length := by omega
    have hk1 : 1 ≤ k := by omega
    have HGB := hid (show pruneB ts (k : Int) = treeB (cutL ts k (endN ts k)) by unfold pruneB; rw [hT, decide_eq_true hin.1, decide_eq_true hin.2]; rfl)
    rw [HGB.out]
    show Calls _ _ _ _ (TreeAns w (if treeB (cutL ts k (endN ts k)) then cutL ts k (endN ts k) else ts) _)
    have hle := endN_le hk
    have CL := hid (fun wx (h : TkRow wx a ts) => cEndS a cap ts k wx h hk hn)
    have CP := hid (fun wx (h : TkRow wx a ts) => cCutL a cap ts k wx h hTP hk hk1 hc hcm hz)
    have HPN := hid (show (cutL ts k (endN ts k)).length ≤ 1048576 from Nat.le_trans (cutL_len (by omega) hle.2) hn)
    have HPZ := hid (cutL_sz (a := k) (e := endN ts k) hTP hz)
    obtain ⟨P, hP⟩ : ∃ P, cutL ts k (endN ts k) = P := ⟨_, rfl⟩
    rw [hP] at CP HPN HPZ ⊢
    have CQ := hid (fun wx aP cP (h : TkRow wx aP P) => cTreeOkS aP cP P wx h HPN.out HPZ.out)
    obtain ⟨B, hBB⟩ : ∃ B, treeB P = B := ⟨_, rfl⟩
    rw [hBB] at CQ ⊢
    have q1 : decide ((k : Int) < 1) = false := decide_eq_false (by omega)
    have q2 : decide ((ts.length : Int) ≤ (k : Int)) = false := decide_eq_false (by omega)
    have q3 : ¬ (k : Int) < 1 := by omega
    have q4 : ¬ (ts.length : Int) ≤ (k : Int) := by omega
    clear hT HG HGB hR hz hP hBB hTP hin hc hn
    generalize endN ts k = E at *
    generalize ts.length = n at *
    obtain ⟨R, hRR⟩ : ∃ R, (if B = true then P else ts) = R := ⟨_, rfl⟩
    have HRR := hid hRR
    rw [hRR]
    clear hRR
    go_enter Tryz.func29, Tryz.ntmps29
    go_wp2_with fail
    refine C.out.mono ?_
    rintro e w1 ⟨rfl, hb1⟩
    have HB1 := hid hb1
    clear hb1 C
    go_wp2_with fail
    refine (CL.out _ (HR.out.below HB1.out)).mono ?_
    rintro e w2 ⟨rfl, rfl⟩
    go_wp2_with fail
    refine (CP.out _ (HR.out.below HB1.out)).mono ?_
    rintro e w5 ⟨v5, rfl, hr5⟩
    have HR5 := hid (RowOf.later HB1.out hr5)
    obtain ⟨a5, c5, hv5, ht5⟩ := hr5.tk
    subst hv5
    have HT5 := hid ht5
    clear hr5 CP ht5
    obtain ⟨pn, hpn⟩ : ∃ pn, P.length = pn := ⟨_, rfl⟩
    rw [hpn] at CQ HR5 ⊢
    clear hpn
    go_wp2_with fail
    refine (CQ.out _ _ _ HT5.out).mono ?_
    rintro e w6 ⟨rfl, hb6⟩
    have HB6 := hid (bb HR5.out.bel hb6)
    have HR6 := hid (HR5.out.below hb6)
    clear hb6 CQ
    cases B with
    | false =>
      have HF := hid (show R = ts from HRR.out.symm)
      go_wp2_with fail
      refine (CC.out _ (HR.out.below HB6.out)).mono ?_
      rintro e w7 ⟨v7, rfl, hr7⟩
      have HR7 := hid (RowOf.later HB6.out hr7)
      clear hr7 CC
      go_wp2_with fail
      go_ret2
      exact ⟨_, rfl, by rw [HF.out]; exact HR7.out⟩
    | true =>
      have HF := hid (show R = P from HRR.out.symm)
      go_wp2_with fail
      go_ret2
      exact ⟨_, rfl, by rw [HF.out]; exact HR6.out⟩

end Go.Proofs.YteninofjeidljaaGreat

namespace Go.Proofs.YteninofjeidljaaGreat

open Go.RowKit

set_option linter.unusedVariables false

set_option linter.unusedSimpArgs false

theorem nameL_len {l : List UInt8} (h : nameL l = true) : l.length ≤ 21 := by
  unfold nameL at h
  split at h
  · unfold lettersL at h
    simp only [Bool.and_eq_true, decide_eq_true_eq] at h
    omega
  · rename_i a ha
    rw [Bool.and_eq_true] at h
    obtain ⟨h1, h2⟩ := h
    unfold lettersL at h1 h2
    simp only [Bool.and_eq_true, decide_eq_true_eq] at h1 h2
    have e1 : (preL l).length = min a l.length := by unfold preL; rw [ha]; simp
    have e2 : (locL l).length = l.length - (a + 1) := by unfold locL; rw [ha]; simp
    have : a < l.length := by
      unfold colonAt at ha
      rw [List.findIdx?_eq_some_iff_getElem] at ha
      exact ha.1
    omega

/-- What stands in a tree is small. -/
theorem tree_small {ts : List Tk} (hT : TreeP ts) : TksSz 1048576 ts := by
  intro t ht
  obtain ⟨k, hk, rfl⟩ := List.getElem_of_mem ht
  have ht := tree_text hT k
  rw [textAt_at hk] at ht
  have hb := node_right hT hk
  by_cases h0 : ts[k].name.size = 0
  · rw [nodeB_tx h0, Bool.and_eq_true] at hb
    have hl := of_decide_eq_true hb.1
    exact ⟨by omega, by omega, fun x hx => by rw [List.eq_nil_of_length_eq_zero hl] at hx; exact absurd hx List.not_mem_nil, by omega⟩
  · rw [nodeB_el h0, Bool.and_eq_true, Bool.and_eq_true] at hb
    have ho : AttrsOk ts[k].attrs := by
      by_cases q : AttrsOk ts[k].attrs
      · exact q
      · rw [attrsB_f q] at hb; cases hb.2.1
    have hnm := nameL_len hb.1
    rw [← sz] at hnm
    refine ⟨by omega, by have := ho.1; omega, fun x hx => ?_, by omega⟩
    obtain ⟨j, hj, rfl⟩ := List.getElem_of_mem hx
    obtain ⟨z1, z2, z3⟩ := ho.2.1 j hj hj
    have := nameL_len z1
    rw [← sz] at this
    exact ⟨by omega, by omega⟩

theorem canB_parts {ts : List Tk} {x y : Int} (h : canB ts x y = true) : NamesP ts ∧ (∃ k : Nat, x = (k : Int) ∧ k < ts.length ∧ elN ts k) ∧ (-1 ≤ y ∧ y ≤ (ts.length : Int) - 1) ∧ ¬ y = x := by
  unfold canB at h
  rw [Bool.and_eq_true, Bool.and_eq_true, Bool.and_eq_true] at h
  obtain ⟨h1, h2, h3, h4⟩ := h
  have hN : NamesP ts := by
    by_cases q : NamesP ts
    · exact q
    · rw [namesB_f q] at h1; cases h1
  obtain ⟨hT, k, rfl, hk⟩ := elemB_t h2
  refine ⟨hN, ⟨k, rfl, hk, hk, ?_⟩, of_decide_eq_true h3, by simpa using h4⟩
  unfold elemB at h2
  rw [Bool.and_eq_true] at h2
  have := h2.2
  rw [show ((k : Int).toNat) = k from rfl, nameI_at hk] at this
  simpa using this

theorem canB_mk {ts : List Tk} {k : Nat} {y : Int} (hN : NamesP ts) (he : elN ts k) (hy : -1 ≤ y ∧ y ≤ (ts.length : Int) - 1) (hne : ¬ y = (k : Int)) : canB ts (k : Int) y = true := by
  obtain ⟨hk, hn⟩ := he
  unfold canB elemB hasB
  rw [namesB_t hN, treeB_t hN.1, decide_eq_true (show (0 : Int) ≤ (k : Int) ∧ (k : Int) < ts.length by omega), show ((k : Int).toNat) = k from rfl, nameI_at hk, decide_eq_false hn, decide_eq_true hy, decide_eq_false hne]
  rfl

/-- A node ahead of what is cut keeps its name. -/
theorem cut_name {ts : List Tk} {a e i : Nat} (hi : i < a) (ha : a ≤ ts.length) (he : elN ts i) : elN (cutL ts a e) i := by
  obtain ⟨hk, hn⟩ := he
  cases hs : sideB ts a e with
  | false =>
    rw [cutL_no hs]
    unfold outC
    have hlen : i < (ts.take (min ts.length a)).length := by rw [List.length_take]; omega
    refine ⟨by rw [List.length_append]; omega, ?_⟩
    rw [List.getElem_append_left hlen, List.getElem_take]
    exact hn
  | true =>
    have hs' := hs
    unfold sideB at hs'
    split at hs'
    · rename_i t u ht hu
      rw [cutL_yes hs ht hu]
      unfold joinC
      have hlen : i < ((ts.take a).set (a - 1) ⟨t.kind, t.name, t.attrs, t.text ++ u.text⟩).length := by rw [List.length_set, List.length_take]; omega
      refine ⟨by rw [List.length_append]; omega, ?_⟩
      rw [List.getElem_append_left hlen, List.getElem_set]
      split
      · rename_i q
        subst q
        rw [List.getElem?_eq_getElem hk] at ht
        cases ht
        exact hn
      · rw [List.getElem_take]
        exact hn
    · cases hs'

theorem canon_nonempty {ts : List Tk} {but : Int} {f k : Nat} (he : elN ts k) (hb : ¬ (k : Int) = but) (hf : 0 < f) (sd : List At) : ¬ (canonN ts but f k sd).size = 0 := by
  obtain ⟨g, rfl⟩ : ∃ g, f = g + 1 := ⟨f - 1, by omega⟩
  obtain ⟨hk, hn⟩ := he
  rw [canonN_el rfl hb (by rw [nodeAt_at hk]; exact hn), ByteArray.size_append]
  have : (⟨#[62]⟩ : ByteArray).size = 1 := rfl
  omega

/-- What is written is that of a tree of which nothing is left out. -/
theorem canon_whole {ts : List Tk} {k : Nat} {y : Int} (hN : NamesP ts) (he : elN ts k) (hy : -1 ≤ y ∧ y ≤ (ts.length : Int) - 1) (hne : ¬ y = (k : Int)) (hsz : ∀ t ∈ ts, t.text.size ≤ 30) :
    ∃ us, NamesP us ∧ elN us k ∧ us.length ≤ ts.length ∧ canonI ts (k : Int) y = canonN us (-1) ts.length k [] ∧ ((k : Int) < y ∧ y < (endN ts k : Int) → 1 ≤ y ∧ us = cutL ts y.toNat (endN ts y.toNat)) := by
  have hk := he.1
  rw [canonI_yes (canB_mk hN he hy hne), show ((k : Int).toNat) = k from rfl]
  by_cases hin : (k : Int) < y ∧ y < (endN ts k : Int)
  · obtain ⟨a, rfl⟩ : ∃ a : Nat, y = (a : Int) := ⟨y.toNat, by omega⟩
    have ha : a < ts.length := by omega
    have ha1 : 1 ≤ a := by omega
    have hU := tree_cut hN.1 ha ha1 hsz
    have hle := endN_le ha
    refine ⟨_, names_cut hN ha ha1 hU, cut_name (by omega) (by omega) he, cutL_len (by omega) hle.2, ?_, fun _ => ⟨by omega, rfl⟩⟩
    exact canon_cut hN.1 ha ha1 hU (by omega) (by rw [nodeAt_at hk]; exact he.2) _ _
  · exact ⟨ts, hN, he, Nat.le_refl _, canon_far hN.1 hk (by omega) _ _, fun h => absurd h hin⟩

/-- All that FnCanon asks of a text that was written. -/
theorem canon_law {ts : List Tk} {x y : Int} (h : canB ts x y = true) (hsz : ∀ t ∈ ts, t.text.size ≤ 30) :
    ¬ (canonI ts x y).size = 0 ∧
    (toksF (canonI ts x y).data.toList = none ∨ ∃ l us, toksF (canonI ts x y).data.toList = some l ∧ grownT l = some us ∧ NamesP us ∧ canonI us 0 (-1) = canonI ts x y) ∧
    (x < y → y < endI ts x → pruneB ts y = true ∧ canonI (pruneT ts y) x (-1) = canonI ts x y ∧ TksSz 1048576 (pruneT ts y) ∧ (pruneT ts y).length ≤ 50) := by
  obtain ⟨hN, ⟨k, rfl, hk, he⟩, hy, hne⟩ := canB_parts h
  obtain ⟨us, hNu, heu, hlen, heq, hcut⟩ := canon_whole hN he hy hne hsz
  have hku := heu.1
  refine ⟨?_, ?_, ?_⟩
  · rw [canonI_yes h]
    exact canon_nonempty he (fun e => hne e.symm) (by omega) _
  · rw [heq]
    rcases canon_again hNu hku heu (f := ts.length) (by omega) with q | ⟨l, q1, q2, q3, q4⟩
    · exact .inl q
    · refine .inr ⟨l, _, q1, q2, q3, ?_⟩
      obtain ⟨h0, hn0⟩ := q3.1.2.2.2.1
      rw [show (0 : Int) = ((0 : Nat) : Int) from rfl, canonI_yes (canB_mk q3 ⟨h0, hn0⟩ (by omega) (by omega))]
      exact q4
  · intro h1 h2
    have hend : endI ts (k : Int) = (endN ts k : Int) := by
      unfold endI
      rw [if_pos (has_of hN.1 hk)]
      rfl
    rw [hend] at h2
    obtain ⟨hy1, rfl⟩ := hcut ⟨h1, h2⟩
    obtain ⟨a, rfl⟩ : ∃ a : Nat, y = (a : Int) := ⟨y.toNat, by omega⟩
    rw [show ((a : Int).toNat) = a from rfl] at *
    have hB : pruneB ts (a : Int) = true := by
      unfold pruneB
      rw [treeB_t hN.1, show ((a : Int).toNat) = a from rfl, treeB_t hNu.1, decide_eq_true hy1, decide_eq_true (show (a : Int) < (ts.length : Int) by omega)]
      rfl
    have hp : pruneT ts (a : Int) = cutL ts a (endN ts a) := by
      unfold pruneT
      rw [treeB_t hN.1, hB]
      rfl
    refine ⟨hB, ?_, by rw [hp]; exact tree_small hNu.1, by rw [hp]; exact hNu.1.2.1⟩
    rw [hp, heq, canonI_yes (canB_mk hNu heu (by omega) (by omega)), show ((k : Int).toNat) = k from rfl]
    exact canon_fuel _ _ _ _ hku (by omega) (by omega)

end Go.Proofs.YteninofjeidljaaGreat

namespace Go.Proofs.YteninofjeidljaaGreat

open Go.RowKit

set_option linter.unusedVariables false

set_option linter.unusedSimpArgs false

def meas (v : Value) : Nat := 4 - (intOf v).toNat

end Go.Proofs.YteninofjeidljaaGreat
