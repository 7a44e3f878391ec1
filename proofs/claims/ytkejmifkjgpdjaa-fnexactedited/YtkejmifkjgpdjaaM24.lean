/- What is gone, and what stands as it stood (mathematics alone). Contracts of joinedText and Pruned of the program. The program's Edited. -/
import Derived.Test.YtkejmifkjgpdjaaM15
import Derived.Test.YtkejmifkjgpdjaaM23
import Derived.Test.YtkejmifkjgpdjaaM18
namespace Go.Proofs.Ytkejmifkjgpdjaa
open Go.RowKit
set_option linter.unusedVariables false

section
variable {ts : List Tk} {a e : Nat}

/-- What stands ahead of it stands as it stood. -/
theorem cut_take (hae : a ≤ e) (he : e ≤ ts.length) (ha1 : 1 ≤ a) : (cutL ts a e).take (a - 1) = ts.take (a - 1) := by
  cases hs : sideB ts a e with
  | false =>
    rw [cutL_no hs]
    unfold outC
    rw [Nat.min_eq_right (by omega), List.take_append_of_le_length (by rw [List.length_take]; omega), List.take_take, Nat.min_eq_left (by omega)]
  | true =>
    have hs' := hs
    unfold sideB at hs'
    split at hs'
    · rename_i t u ht hu
      rw [cutL_yes hs ht hu]
      unfold joinC
      rw [List.take_append_of_le_length (by rw [List.length_set, List.length_take]; omega), List.take_set_of_le (Nat.le_refl _), List.take_take, Nat.min_eq_left (by omega)]
    · cases hs'

/-- Just what it had is gone, or one text more. -/
theorem cut_size (hae : a ≤ e) (he : e ≤ ts.length) (ha1 : 1 ≤ a) : (cutL ts a e).length + (e - a) = ts.length ∨ (cutL ts a e).length + (e - a) + 1 = ts.length := by
  cases hs : sideB ts a e with
  | false =>
    left
    rw [cutL_no hs, outC_len hae he (Nat.le_refl _)]
    omega
  | true =>
    right
    have hs' := hs
    unfold sideB at hs'
    split at hs'
    · rename_i t u ht hu
      rw [cutL_yes hs ht hu]
      unfold joinC
      have hel : e < ts.length := by
        rcases Nat.lt_or_ge e ts.length with h' | h'
        · exact h'
        · rw [List.getElem?_eq_none h'] at hu; cases hu
      rw [List.length_append, List.length_set, List.length_take, segN_len _ (by omega)]
      omega
    · cases hs'

end

end Go.Proofs.Ytkejmifkjgpdjaa

namespace Go.Proofs.Ytkejmifkjgpdjaa
open Go.RowKit
set_option linter.unusedVariables false
set_option linter.unusedSimpArgs false

theorem RowOf.big {w wr : World} {a : Option Addr} {n c : Nat} {L : List Tk} (h : RowOf w wr (.slice a n c) L) : n = L.length ∧ L.length ≤ c := by
  obtain ⟨es, a8, c8, e, hr, hm, hl⟩ := h.open
  obtain ⟨rfl, rfl, rfl⟩ : a = a8 ∧ n = es.length ∧ c = c8 := by injection e with h1 h2 h3; exact ⟨h1, h2, h3⟩
  refine ⟨hl, ?_⟩
  rcases hr.own.2 with ⟨e, h0⟩ | ⟨g, cap, cur, e, _, _, hc, _⟩
  · omega
  · cases e
    omega

set_option maxRecDepth 4000 in
set_option maxHeartbeats 4000000 in
theorem cJoin0 (w0 : World) (v : Value) (T : List Tk) (k : Nat) (w : World) (h : RowOf w0 w v T) (h0 : 0 < T.length) (hk : k = T.length ∨ (k < T.length ∧ twinB T k = false)) (h50 : T.length ≤ 50) (hz : TksSz 1048576 T) :
    Calls Try.prog 75 #[v, .int .i64 (k : Int)] w fun e w' => ∃ v', e = .returned v' ∧ RowOf w0 w' v' T := by
  have HX := hid h
  obtain ⟨a, c, hv, ht⟩ := h.tk
  subst hv
  rcases hk with hk | ⟨hk, hB⟩
  · subst hk
    clear h ht hz
    have hkk : ((T.length : Int) == (T.length : Int)) = true := by simp
    generalize T.length = n at *
    go_enter Try.func75, Try.ntmps75
    go_wp2_with fail
    go_ret
    exact ⟨_, rfl, HX.out⟩
  · have CB := hid (cBeside a c T k w ht hk (by omega) hz)
    rw [hB] at CB
    clear h ht hz hB
    have hkk : ((k : Int) == (T.length : Int)) = false := by simp; omega
    generalize T.length = n at *
    go_enter Try.func75, Try.ntmps75
    go_wp2_with fail
    refine CB.out.mono ?_
    rintro e w1 ⟨rfl, hb1⟩
    have HX1 := hid (HX.out.below hb1)
    clear hb1 CB
    go_wp2_with fail
    go_ret
    exact ⟨_, rfl, HX1.out⟩

set_option maxRecDepth 4000 in
set_option maxHeartbeats 4000000 in
theorem cJoin1 (w0 : World) (v : Value) (T : List Tk) (q : Nat) (t u : Tk) (w : World) (h : RowOf w0 w v T) (hk : q + 1 < T.length) (hB : twinB T (q + 1) = true) (h50 : T.length ≤ 50) (hz : TksSz 1048576 T) (hs : KSm T)
    (hu : T[q + 1]? = some u) (ht : (T.take (q + 1) ++ mvL ((q + 1 + 1 : Nat) : Int) (((q + 1 : Nat) : Int) - ((q + 1 + 1 : Nat) : Int)) (T.drop (q + 1 + 1)))[q]? = some t) (hts : t.text.size ≤ 60) (hus : u.text.size ≤ 60) :
    Calls Try.prog 75 #[v, .int .i64 ((q : Int) + 1)] w fun e w' => ∃ v', e = .returned v' ∧ RowOf w0 w' v' ((T.take (q + 1) ++ mvL ((q + 1 + 1 : Nat) : Int) (((q + 1 : Nat) : Int) - ((q + 1 + 1 : Nat) : Int)) (T.drop (q + 1 + 1))).set q ⟨t.kind, t.name, t.attrs, t.text ++ u.text⟩) := by
  obtain ⟨tk, tn, ta, tx⟩ := t
  obtain ⟨uk, un, ua, ux⟩ := u
  simp only at hts hus ⊢
  obtain ⟨a, c, hv, htk⟩ := h.tk
  subst hv
  have hbig := h.big.2
  obtain ⟨b, o, rfl⟩ := row_adr htk (by omega)
  have CB := hid (cBeside (some ⟨b, o, none⟩) c T (q + 1) w htk hk (by omega) hz)
  rw [hB, show ((q + 1 : Nat) : Int) = (q : Int) + 1 from rfl] at CB
  have CW := hid (fun wx (hr : TkRow wx (some ⟨b, o, none⟩) T) => cWithout b o c T (q + 1) (q + 1 + 1) wx hr hbig (by omega) (by omega) (by omega) hz hs)
  have HR := hid htk
  have HX := hid h
  have HT := hid ht
  have hLL : (T.take (q + 1) ++ mvL ((q + 1 + 1 : Nat) : Int) (((q + 1 : Nat) : Int) - ((q + 1 + 1 : Nat) : Int)) (T.drop (q + 1 + 1))).length = T.length - 1 := by
    rw [List.length_append, mvL_len, List.length_take, List.length_drop]
    omega
  have HLL := hid hLL
  have HU := hid hu
  clear h htk hz hs hB ht hLL hu
  generalize T.take (q + 1) ++ mvL ((q + 1 + 1 : Nat) : Int) (((q + 1 : Nat) : Int) - ((q + 1 + 1 : Nat) : Int)) (T.drop (q + 1 + 1)) = L at *
  rw [show ((q + 1 : Nat) : Int) = (q : Int) + 1 from rfl, show ((q + 1 + 1 : Nat) : Int) = (q : Int) + 1 + 1 from rfl] at CW
  obtain ⟨n, hnn⟩ : ∃ n, T.length = n := ⟨_, rfl⟩
  have HN := hid hnn
  rw [hnn] at hk h50 CB CW HLL hbig ⊢
  clear hnn
  have hkk : (((q : Int) + 1) == (n : Int)) = false := by simp; omega
  have hq50 : q + 1 < 50 := by omega
  go_enter Try.func75, Try.ntmps75
  go_wp2_with fail
  refine CB.out.mono ?_
  rintro e w1 ⟨rfl, hb1⟩
  have HB1 := hid hb1
  have HX1 := hid (HX.out.below hb1)
  have HR1 := hid (HR.out.below hb1)
  clear hb1 CB HX HR
  go_wp2_with fail
  refine (CW.out _ HR1.out).mono ?_
  rintro e w2 ⟨v2, rfl, hr2⟩
  have HB2 := hid hr2.bel
  obtain ⟨g, c2, hv2, hg2, ⟨aa, ca, d0, d1, d2, d3⟩, hfz, _, hset⟩ := hr2.put HT.out
  subst hv2
  have f3 := hfz (q * 4 + 3)
  have HS := hid (RowOf.later HX1.out.bel (hset (tx ++ ux)))
  rw [HLL.out] at HS ⊢
  have hq1 : q + 1 < T.length := by rw [HN.out]; exact hk
  obtain ⟨b', o', aa', ca', e', hbl, y0, y1, y2, y3, _⟩ := (HR1.out.below HB2.out) (q + 1) hq1
  obtain ⟨rfl, rfl⟩ : b = b' ∧ o = o' := by cases e'; exact ⟨rfl, rfl⟩
  have hue : T[q + 1] = ⟨uk, un, ua, ux⟩ := by
    have h1 := HU.out
    rw [List.getElem?_eq_getElem hq1] at h1
    exact Option.some.inj h1
  rw [hue] at y3
  simp only at y3 d3 HS
  have hz60 : ¬ 9223372036854775807 < tx.size + ux.size := by omega
  have hqn : (q : Int) < ((n - 1 : Nat) : Int) := by omega
  have hqn1 : (q : Int) + 1 < (n : Int) := by omega
  clear hr2 CW d0 d1 d2 hfz hset y0 y1 y2 e' hue HX1 HB1 HU HT
  generalize (n - 1) = n1 at *
  go_wp2_with fail
  go_region
  have HS5 := hid (HS.out.below ((Below.refl _ _).drew))
  clear d3 y3 f3
  go_wp2_with fail
  go_ret
  exact ⟨_, rfl, HS5.out⟩

/-- Refused. -/
theorem prune_no {ts : List Tk} {x : Int} (h : pruneB ts x = false) : pruneT ts x = asIs ts := by
  unfold pruneT asIs
  rw [h]
  rfl

/-- What joinedText hands back. -/
theorem cJoinC (w0 : World) (v : Value) (ts : List Tk) (hT : TreeP ts) (k : Nat) (hk1 : 1 ≤ k) (hk : k < ts.length) (w : World) (h : RowOf w0 w v (outC ts k (endN ts k) ts.length)) (hz : TksSz 1048576 ts) :
    Calls Try.prog 75 #[v, .int .i64 (k : Int)] w fun e w' => ∃ v', e = .returned v' ∧ RowOf w0 w' v' (cutL ts k (endN ts k)) := by
  have hle := endN_le hk
  have h50 : ts.length ≤ 50 := hT.2.1
  have hl := outL_len (a := k) (e := endN ts k) (by omega) hle.2
  have hoz : TksSz 1048576 (outC ts k (endN ts k) ts.length) := outC_sz hz
  have hks := out_small (a := k) (e := endN ts k) (by omega) hle.2 h50 (KSm.tree hT)
  cases hs : sideB ts k (endN ts k) with
  | false =>
    rw [cutL_no hs]
    refine cJoin0 w0 v _ k w h (by omega) ?_ (by omega) hoz
    rcases Nat.lt_or_eq_of_le hle.2 with h' | h'
    · exact .inr ⟨by omega, by rw [twin_side hk1 (by omega) h']; exact hs⟩
    · exact .inl (by omega)
  | true =>
    have he : endN ts k < ts.length := by
      rcases Nat.lt_or_eq_of_le hle.2 with h' | h'
      · exact h'
      · rw [side_none h'] at hs
        cases hs
    obtain ⟨t, u, hu, ht, hset, h1, h2⟩ := join_mv hT hk1 hk he hs
    have htw := twin_side hk1 (show k ≤ endN ts k by omega) he
    rw [hs] at htw
    rw [← hset]
    obtain ⟨q, rfl⟩ : ∃ q, k = q + 1 := ⟨k - 1, by omega⟩
    exact cJoin1 w0 v _ q t u w h (by omega) htw (by omega) hoz hks hu ht h1 h2

set_option maxRecDepth 4000 in
set_option maxHeartbeats 4000000 in
theorem cPrunedI (a : Option Addr) (cap : Nat) (ts : List Tk) (x : Int) (w : World) (hR : TkRow w a ts) (hc : ts.length ≤ cap) (hn : ts.length ≤ 1048576) (hz : TksSz 1048576 ts) :
    Calls Try.prog 51 #[.slice a ts.length cap, .int .i64 x] w (TreeAns w (pruneT ts x) (pruneB ts x)) := by
  have C := hid (cThere a cap ts x w hR hn hz)
  have CA := hid (fun wx (h : TkRow wx a ts) => cAsIs a cap ts wx h hn hz)
  have HR := hid hR
  by_cases hx0 : x = 0
  · subst hx0
    have HV := hid (show pruneB ts 0 = false by unfold pruneB; rfl)
    rw [prune_no HV.out, HV.out]
    clear HV hR hz hc C
    generalize asIs ts = R at *
    generalize ts.length = n at *
    go_enter Try.func51, Try.ntmps51
    go_wp2_with fail
    refine (CA.out _ HR.out).mono ?_
    rintro e w3 ⟨v3, rfl, hr3⟩
    have HR3 := hid hr3
    clear hr3 CA
    go_wp2_with fail
    go_ret2
    exact ⟨_, rfl, HR3.out⟩
  have hx1 : (x == 0) = false := by simpa using hx0
  cases hE : hasB ts x with
  | false =>
    have HV := hid (show pruneB ts x = false by
      unfold pruneB
      unfold hasB at hE
      cases hT : treeB ts with
      | false => rw [Bool.false_and, Bool.and_false]
      | true =>
        rw [hT, Bool.true_and, decide_eq_false_iff_not] at hE
        rw [show (decide (1 ≤ x) && decide (x < (ts.length : Int))) = false by
          rw [Bool.and_eq_false_iff, decide_eq_false_iff_not, decide_eq_false_iff_not]
          omega]
        rfl)
    rw [prune_no HV.out, HV.out]
    rw [hE] at C
    clear hE HV hR hz hc hx0
    generalize asIs ts = R at *
    generalize ts.length = n at *
    go_enter Try.func51, Try.ntmps51
    go_wp2_with fail
    refine C.out.mono ?_
    rintro e w1 ⟨rfl, hb1⟩
    have HB1 := hid hb1
    have CA1 := hid (CA.out _ (HR.out.below hb1))
    clear hb1 C CA
    go_wp2_with fail
    refine CA1.out.mono ?_
    rintro e w3 ⟨v3, rfl, hr3⟩
    have HR3 := hid (RowOf.later HB1.out hr3)
    clear hr3
    go_wp2_with fail
    go_ret2
    exact ⟨_, rfl, HR3.out⟩
  | true =>
    rw [hE] at C
    obtain ⟨hT, k, rfl, hk⟩ := hasB_t hE
    have hk1 : 1 ≤ k := by omega
    have h50 : ts.length ≤ 50 := hT.2.1
    obtain ⟨b, o, rfl⟩ := row_adr hR (by omega)
    have hle := endN_le hk
    have hEI : endI ts (k : Int) = (endN ts k : Int) := by unfold endI; rw [hE]; rfl
    have CE := hid (fun wx (h : TkRow wx (some ⟨b, o, none⟩) ts) => cEndOfI (some ⟨b, o, none⟩) cap ts (k : Int) wx h hn hz)
    rw [hEI] at CE
    have CW := hid (fun wx (h : TkRow wx (some ⟨b, o, none⟩) ts) => cWithout b o cap ts k (endN ts k) wx h hc (by omega) hle.2 hn hz (KSm.tree hT))
    rw [out_mv (by omega) hle.2] at CW
    have CJ := hid (fun (w0 wx : World) (v : Value) (h : RowOf w0 wx v (outC ts k (endN ts k) ts.length)) => cJoinC w0 v ts hT k hk1 hk wx h hz)
    have hcl := cut_size (ts := ts) (a := k) (e := endN ts k) (by omega) hle.2 hk1
    have CX := hid (fun (w0 wx : World) (v : Value) (h2 : RowOf w0 wx v (cutL ts k (endN ts k))) (h : TkRow wx (some ⟨b, o, none⟩) ts) => cChanged w0 (some ⟨b, o, none⟩) cap ts v _ wx h2 h hn hz (by omega) (cutL_sz hT hz))
    have HG := hid (show pruneB ts (k : Int) = treeB (cutL ts k (endN ts k)) by
      unfold pruneB
      rw [treeB_t hT, decide_eq_true (show 1 ≤ (k : Int) by omega), decide_eq_true (show (k : Int) < (ts.length : Int) by omega)]
      rfl)
    have HG2 := hid (show pruneT ts (k : Int) = if treeB (cutL ts k (endN ts k)) then cutL ts k (endN ts k) else asIs ts by
      unfold pruneT asIs
      rw [HG.out, treeB_t hT]
      rfl)
    rw [HG2.out, HG.out]
    clear hE hT hR hz hEI HG HG2 CA hx0 hcl hle
    generalize treeB (cutL ts k (endN ts k)) = B at *
    generalize (if B = true then cutL ts k (endN ts k) else asIs ts) = R at *
    generalize cutL ts k (endN ts k) = P at *
    generalize outC ts k (endN ts k) ts.length = O at *
    generalize endN ts k = E at *
    generalize ts.length = n at *
    go_enter Try.func51, Try.ntmps51
    go_wp2_with fail
    refine C.out.mono ?_
    rintro e w1 ⟨rfl, hb1⟩
    have HB1 := hid hb1
    clear hb1 C
    go_wp2_with fail
    refine (CE.out _ (HR.out.below HB1.out)).mono ?_
    rintro e w2 ⟨rfl, hb2⟩
    have HB2 := hid (bb HB1.out hb2)
    clear hb2 CE HB1
    go_wp2_with fail
    refine (CW.out _ (HR.out.below HB2.out)).mono ?_
    rintro e w3 ⟨v3, rfl, hr3⟩
    have HR3 := hid (RowOf.later HB2.out hr3)
    have CJ3 := hid (CJ.out _ _ _ HR3.out)
    clear hr3 CW CJ HB2
    go_wp2_with fail
    refine CJ3.out.mono ?_
    rintro e w4 ⟨v4, rfl, hr4⟩
    have CX4 := hid (CX.out _ _ _ hr4 (HR.out.below hr4.bel))
    clear hr4 CX CJ3 HR3
    go_wp2_with fail
    refine CX4.out.mono ?_
    rintro e w5 ⟨v5, rfl, hr5⟩
    have HR5 := hid hr5
    clear hr5 CX4
    go_wp2_with fail
    go_ret2
    exact ⟨_, rfl, HR5.out⟩

end Go.Proofs.Ytkejmifkjgpdjaa

namespace Go.Proofs.Ytkejmifkjgpdjaa
open Go.RowKit
set_option linter.unusedVariables false
set_option linter.unusedSimpArgs false

set_option maxHeartbeats 4000000 in
theorem cBrGraft (a a2 : Option Addr) (ca c2 : Nat) (ts us : List Tk) (p f : Int) (w : World) (hR : TkRow w a ts) (hR2 : TkRow w a2 us) (hc : ts.length ≤ ca) (hc2 : us.length ≤ c2) (hn : ts.length ≤ 1048576) (hn2 : us.length ≤ 1048576) (hz : TksSz 1048576 ts) (hz2 : TksSz 1048576 us) :
    Calls Try.prog 52 #[.slice a ts.length ca, .int .i64 p, .slice a2 us.length c2, .int .i64 f] w (TreeAns w (graftL ts (branchI us f) p) (graftB ts (branchI us f) p)) := by
  have C := hid (cBranchI a2 c2 us f w hR2 hc2 hn2 hz2)
  have HBA := ans_branch us f
  have hbn : (branchI us f).length ≤ 1048576 := by have := HBA.len; omega
  have CG := hid (fun (ab : Option Addr) (cb : Nat) wx (h : TkRow wx a ts) (h2 : TkRow wx ab (branchI us f)) (h3 : (branchI us f).length ≤ cb) => cGraftedI a ab ca cb ts (branchI us f) p wx h h2 hc hn hbn hz HBA.sz)
  have HR := hid hR
  clear hR hR2 hc hc2 hn hn2 hz hz2 HBA hbn
  generalize graftL ts (branchI us f) p = L at *
  generalize graftB ts (branchI us f) p = V at *
  generalize branchI us f = br at *
  generalize ts.length = n at *
  generalize us.length = n2 at *
  go_enter Try.func52, Try.ntmps52
  go_wp2_with fail
  refine C.out.mono ?_
  rintro e w1 ⟨v1, rfl, hr1⟩
  obtain ⟨ab, cb, hv1, ht1, hl1, _⟩ := hr1.tkc
  have HB1 := hid hr1.bel
  subst hv1
  have C2 := hid (CG.out ab cb _ (HR.out.below HB1.out) ht1 hl1)
  clear hr1 ht1 hl1 C CG
  go_wp2_with fail
  refine C2.out.mono ?_
  rintro e w2 ⟨v2, rfl, hr2⟩
  have H2 := hid (RowOf.later HB1.out hr2)
  clear hr2 C2
  go_wp2_with fail
  go_ret2
  exact ⟨_, rfl, H2.out⟩

set_option maxRecDepth 4000 in
set_option maxHeartbeats 4000000 in
theorem cChange1I (p f : Int) (x : ByteArray) (a : Option Addr) (ca : Nat) (ts : List Tk) (a2 : Option Addr) (c2 : Nat) (us : List Tk) (w : World) (hR : TkRow w a ts) (hT : TreeP ts) (hc : ts.length ≤ ca) (hR2 : TkRow w a2 us) (hU : TreeP us) (hc2 : us.length ≤ c2) (hnm : x.size ≤ 1048576) :
    Calls Try.prog 24 #[.agg #[.int .i64 1, .int .i64 p, .int .i64 f, .string x], .slice a ts.length ca, .slice a2 us.length c2] w fun r w' => ∃ v b, r = .returned (.tuple #[v, .bool b]) ∧ RowOf w w' v (pruneT ts p) := by
  have hz := tree_smallE hT
  have hn : ts.length ≤ 1048576 := by have := hT.2.1; omega
  have huz := tree_smallE hU
  have hun : us.length ≤ 1048576 := by have := hU.2.1; omega
  have HB0 := hid ((Below.refl w.heap.size w).alloc (Nat.le_refl _) (.cells #[.int .i64 1, .int .i64 p, .int .i64 f, .string x] 46))
  have h := hR.below HB0.out
  have C := hid (cPrunedI a ca ts p _ h hc hn hz)
  clear hR hT hc hR2 hU hc2 hnm hz hn huz hun h
  generalize pruneT ts p = L at *
  generalize ts.length = n at *
  generalize us.length = n2 at *
  go_enter Try.func24, Try.ntmps24
  go_wp2_with fail
  refine C.out.mono ?_
  rintro e w1 ⟨v1, rfl, hr1⟩
  have H1 := hid (RowOf.later HB0.out hr1)
  clear hr1 C
  go_wp2_with fail
  go_ret2
  exact ⟨_, _, rfl, H1.out⟩

set_option maxRecDepth 4000 in
set_option maxHeartbeats 4000000 in
theorem cChange2I (p f : Int) (x : ByteArray) (a : Option Addr) (ca : Nat) (ts : List Tk) (a2 : Option Addr) (c2 : Nat) (us : List Tk) (w : World) (hR : TkRow w a ts) (hT : TreeP ts) (hc : ts.length ≤ ca) (hR2 : TkRow w a2 us) (hU : TreeP us) (hc2 : us.length ≤ c2) (hnm : x.size ≤ 1048576) :
    Calls Try.prog 24 #[.agg #[.int .i64 2, .int .i64 p, .int .i64 f, .string x], .slice a ts.length ca, .slice a2 us.length c2] w fun r w' => ∃ v b, r = .returned (.tuple #[v, .bool b]) ∧ RowOf w w' v (graftL ts (branchI ts f) p) := by
  have hz := tree_smallE hT
  have hn : ts.length ≤ 1048576 := by have := hT.2.1; omega
  have huz := tree_smallE hU
  have hun : us.length ≤ 1048576 := by have := hU.2.1; omega
  have HB0 := hid ((Below.refl w.heap.size w).alloc (Nat.le_refl _) (.cells #[.int .i64 2, .int .i64 p, .int .i64 f, .string x] 46))
  have h := hR.below HB0.out
  have C := hid (cBrGraft a a ca ca ts ts p f _ h h hc hc hn hn hz hz)
  clear hR hT hc hR2 hU hc2 hnm hz hn huz hun h
  generalize graftL ts (branchI ts f) p = L at *
  generalize ts.length = n at *
  generalize us.length = n2 at *
  go_enter Try.func24, Try.ntmps24
  go_wp2_with fail
  refine C.out.mono ?_
  rintro e w1 ⟨v1, rfl, hr1⟩
  have H1 := hid (RowOf.later HB0.out hr1)
  clear hr1 C
  go_wp2_with fail
  go_ret2
  exact ⟨_, _, rfl, H1.out⟩

set_option maxRecDepth 4000 in
set_option maxHeartbeats 4000000 in
theorem cChange3I (p f : Int) (x : ByteArray) (a : Option Addr) (ca : Nat) (ts : List Tk) (a2 : Option Addr) (c2 : Nat) (us : List Tk) (w : World) (hR : TkRow w a ts) (hT : TreeP ts) (hc : ts.length ≤ ca) (hR2 : TkRow w a2 us) (hU : TreeP us) (hc2 : us.length ≤ c2) (hnm : x.size ≤ 1048576) :
    Calls Try.prog 24 #[.agg #[.int .i64 3, .int .i64 p, .int .i64 f, .string x], .slice a ts.length ca, .slice a2 us.length c2] w fun r w' => ∃ v b, r = .returned (.tuple #[v, .bool b]) ∧ RowOf w w' v (graftL ts (branchI us f) p) := by
  have hz := tree_smallE hT
  have hn : ts.length ≤ 1048576 := by have := hT.2.1; omega
  have huz := tree_smallE hU
  have hun : us.length ≤ 1048576 := by have := hU.2.1; omega
  have HB0 := hid ((Below.refl w.heap.size w).alloc (Nat.le_refl _) (.cells #[.int .i64 3, .int .i64 p, .int .i64 f, .string x] 46))
  have h := hR.below HB0.out
  have C := hid (cBrGraft a a2 ca c2 ts us p f _ h (hR2.below (HB0.out)) hc hc2 hn hun hz huz)
  clear hR hT hc hR2 hU hc2 hnm hz hn huz hun h
  generalize graftL ts (branchI us f) p = L at *
  generalize ts.length = n at *
  generalize us.length = n2 at *
  go_enter Try.func24, Try.ntmps24
  go_wp2_with fail
  refine C.out.mono ?_
  rintro e w1 ⟨v1, rfl, hr1⟩
  have H1 := hid (RowOf.later HB0.out hr1)
  clear hr1 C
  go_wp2_with fail
  go_ret2
  exact ⟨_, _, rfl, H1.out⟩

set_option maxRecDepth 4000 in
set_option maxHeartbeats 4000000 in
theorem cChange4I (p f : Int) (x : ByteArray) (a : Option Addr) (ca : Nat) (ts : List Tk) (a2 : Option Addr) (c2 : Nat) (us : List Tk) (w : World) (hR : TkRow w a ts) (hT : TreeP ts) (hc : ts.length ≤ ca) (hR2 : TkRow w a2 us) (hU : TreeP us) (hc2 : us.length ≤ c2) (hnm : x.size ≤ 1048576) :
    Calls Try.prog 24 #[.agg #[.int .i64 4, .int .i64 p, .int .i64 f, .string x], .slice a ts.length ca, .slice a2 us.length c2] w fun r w' => ∃ v b, r = .returned (.tuple #[v, .bool b]) ∧ RowOf w w' v (wrapT ts p x) := by
  have hz := tree_smallE hT
  have hn : ts.length ≤ 1048576 := by have := hT.2.1; omega
  have huz := tree_smallE hU
  have hun : us.length ≤ 1048576 := by have := hU.2.1; omega
  have HB0 := hid ((Below.refl w.heap.size w).alloc (Nat.le_refl _) (.cells #[.int .i64 4, .int .i64 p, .int .i64 f, .string x] 46))
  have h := hR.below HB0.out
  have C := hid (cWrappedI a ca ts p x _ h hc hn hz hnm)
  clear hR hT hc hR2 hU hc2 hnm hz hn huz hun h
  generalize wrapT ts p x = L at *
  generalize ts.length = n at *
  generalize us.length = n2 at *
  go_enter Try.func24, Try.ntmps24
  go_wp2_with fail
  refine C.out.mono ?_
  rintro e w1 ⟨v1, rfl, hr1⟩
  have H1 := hid (RowOf.later HB0.out hr1)
  clear hr1 C
  go_wp2_with fail
  go_ret2
  exact ⟨_, _, rfl, H1.out⟩

set_option maxRecDepth 4000 in
set_option maxHeartbeats 4000000 in
theorem cChange5I (k p f : Int) (x : ByteArray) (h1 : ¬ k = 1) (h2 : ¬ k = 2) (h3 : ¬ k = 3) (h4 : ¬ k = 4) (a : Option Addr) (ca : Nat) (ts : List Tk) (a2 : Option Addr) (c2 : Nat) (us : List Tk) (w : World) (hR : TkRow w a ts) (hT : TreeP ts) (hc : ts.length ≤ ca) (hR2 : TkRow w a2 us) (hU : TreeP us) (hc2 : us.length ≤ c2) (hnm : x.size ≤ 1048576) :
    Calls Try.prog 24 #[.agg #[.int .i64 k, .int .i64 p, .int .i64 f, .string x], .slice a ts.length ca, .slice a2 us.length c2] w fun r w' => ∃ v b, r = .returned (.tuple #[v, .bool b]) ∧ RowOf w w' v (asIs ts) := by
  have hz := tree_smallE hT
  have hn : ts.length ≤ 1048576 := by have := hT.2.1; omega
  have huz := tree_smallE hU
  have hun : us.length ≤ 1048576 := by have := hU.2.1; omega
  have HB0 := hid ((Below.refl w.heap.size w).alloc (Nat.le_refl _) (.cells #[.int .i64 k, .int .i64 p, .int .i64 f, .string x] 46))
  have h := hR.below HB0.out
  have C := hid (cAsIs a ca ts _ h hn hz)
  have d1 : (k == 1) = false := by simpa using h1
  have d2 : (k == 2) = false := by simpa using h2
  have d3 : (k == 3) = false := by simpa using h3
  have d4 : (k == 4) = false := by simpa using h4
  clear h1 h2 h3 h4
  clear hR hT hc hR2 hU hc2 hnm hz hn huz hun h
  generalize asIs ts = L at *
  generalize ts.length = n at *
  generalize us.length = n2 at *
  go_enter Try.func24, Try.ntmps24
  go_wp2_with fail
  refine C.out.mono ?_
  rintro e w1 ⟨v1, rfl, hr1⟩
  have H1 := hid (RowOf.later HB0.out hr1)
  clear hr1 C
  go_wp2_with fail
  go_ret2
  exact ⟨_, _, rfl, H1.out⟩

theorem cChangedI (e : Ed) (a : Option Addr) (ca : Nat) (ts : List Tk) (a2 : Option Addr) (c2 : Nat) (us : List Tk) (w : World) (hR : TkRow w a ts) (hT : TreeP ts) (hc : ts.length ≤ ca) (hR2 : TkRow w a2 us) (hU : TreeP us) (hc2 : us.length ≤ c2) (hnm : e.name.size ≤ 1048576) :
    Calls Try.prog 24 #[edV e, .slice a ts.length ca, .slice a2 us.length c2] w fun r w' => ∃ v b, r = .returned (.tuple #[v, .bool b]) ∧ RowOf w w' v (editT ts us e) := by
  obtain ⟨k, p, f, x⟩ := e
  by_cases h1 : k = 1
  · subst h1
    rw [ed1 rfl]
    exact cChange1I p f x a ca ts a2 c2 us w hR hT hc hR2 hU hc2 hnm
  by_cases h2 : k = 2
  · subst h2
    rw [ed2 rfl]
    exact cChange2I p f x a ca ts a2 c2 us w hR hT hc hR2 hU hc2 hnm
  by_cases h3 : k = 3
  · subst h3
    rw [ed3 rfl]
    exact cChange3I p f x a ca ts a2 c2 us w hR hT hc hR2 hU hc2 hnm
  by_cases h4 : k = 4
  · subst h4
    rw [ed4 rfl]
    exact cChange4I p f x a ca ts a2 c2 us w hR hT hc hR2 hU hc2 hnm
  · rw [ed5 h1 h2 h3 h4]
    have e5 : asIs ts = ts := by unfold asIs; rw [treeB_t hT]; rfl
    have h := cChange5I k p f x h1 h2 h3 h4 a ca ts a2 c2 us w hR hT hc hR2 hU hc2 hnm
    rw [e5] at h
    exact h

set_option maxRecDepth 4000 in
set_option maxHeartbeats 8000000 in
theorem cEditedI (a : Option Addr) (ca : Nat) (ts : List Tk) (a2 : Option Addr) (c2 : Nat) (us : List Tk) (a3 : Option Addr) (c3 : Nat) (l : List Ed) (w : World) (hR : TkRow w a ts) (hR2 : TkRow w a2 us) (hE : EdRow w a3 l) (hc : ts.length ≤ ca) (hc2 : us.length ≤ c2) (hn : ts.length ≤ 1048576) (hn2 : us.length ≤ 1048576) (hn3 : l.length ≤ 1048576) (hz : TksSz 1048576 ts) (hz2 : TksSz 1048576 us) (hez : EdSz 1048576 l) :
    Calls Try.prog 9 #[.slice a ts.length ca, .slice a2 us.length c2, .slice a3 l.length c3] w (TreeAns w (edT ts us l) (edB ts us l)) := by
  have CT := hid (cTreeOkI a ca ts w hR hn hz)
  have CU := hid (fun wx (h : Below w.heap.size w wx) => cTreeOkI a2 c2 us wx (hR2.below h) hn2 hz2)
  cases hT : treeB ts with
  | false =>
    have HV := hid (show edB ts us l = false by unfold edB; rw [hT]; rfl)
    have HL := hid (show edT ts us l = [] by unfold edT; rw [HV.out]; rfl)
    rw [HV.out, HL.out]
    rw [hT] at CT
    clear HV HL hT hR hR2 hE hc hc2 hn hn2 hn3 hz hz2 hez CU
    generalize ts.length = n at *
    generalize us.length = n2 at *
    generalize l.length = m at *
    go_enter Try.func9, Try.ntmps9
    go_wp2_with fail
    refine CT.out.mono ?_
    rintro e w1 ⟨rfl, hb1⟩
    have HB1 := hid hb1
    clear hb1 CT
    go_wp2_with fail
    go_ret2
    exact ans_nil HB1.out
  | true =>
  cases hU : treeB us with
  | false =>
    have HV := hid (show edB ts us l = false by unfold edB; rw [hT, hU]; rfl)
    have HL := hid (show edT ts us l = [] by unfold edT; rw [HV.out]; rfl)
    rw [HV.out, HL.out]
    rw [hT] at CT
    rw [hU] at CU
    clear HV HL hT hU hR hR2 hE hc hc2 hn hn2 hn3 hz hz2 hez
    generalize ts.length = n at *
    generalize us.length = n2 at *
    generalize l.length = m at *
    go_enter Try.func9, Try.ntmps9
    go_wp2_with fail
    refine CT.out.mono ?_
    rintro e w1 ⟨rfl, hb1⟩
    have HB1 := hid hb1
    have CU1 := hid (CU.out _ hb1)
    clear hb1 CT CU
    go_wp2_with fail
    refine CU1.out.mono ?_
    rintro e w2 ⟨rfl, hb2⟩
    have HB2 := hid (bb HB1.out hb2)
    clear hb2 CU1 HB1
    go_wp2_with fail
    go_ret2
    exact ans_nil HB2.out
  | true =>
  by_cases hl : l.length ≤ 20
  · have HV := hid (show edB ts us l = true by unfold edB; rw [hT, hU, decide_eq_true hl]; rfl)
    have HL := hid (show edT ts us l = editsT ts us l by unfold edT; rw [HV.out]; rfl)
    rw [HV.out, HL.out]
    rw [hT] at CT
    rw [hU] at CU
    have hTT := treeG hT
    have hUU := treeG hU
    have HTT := hid hTT
    have HUU := hid hUU
    have HR := hid hR
    have HR2 := hid hR2
    have HE := hid hE
    have HEZ := hid hez
    have HC := hid hc
    have HC2 := hid hc2
    have CP := hid (fun wx (h : Below w.heap.size w wx) => cCopied a ca ts wx (hR.below h) hn hz (fun t ht => by have := KSm.tree hTT t ht; omega))
    obtain ⟨m, hm⟩ : ∃ m, l.length = m := ⟨_, rfl⟩
    have HM := hid hm
    obtain ⟨n2, hnn2⟩ : ∃ n, us.length = n := ⟨_, rfl⟩
    have HN2 := hid hnn2
    obtain ⟨n, hnn⟩ : ∃ n, ts.length = n := ⟨_, rfl⟩
    have HN := hid hnn
    rw [hm] at hl ⊢
    rw [hnn2] at CU ⊢
    rw [hnn] at CT CP ⊢
    have hg : decide ((20 : Int) < (m : Int)) = false := by simp; omega
    clear HV HL hT hU hR hR2 hE hc hc2 hn hn2 hn3 hz hz2 hez hm hnn2 hnn hTT hUU
    go_enter Try.func9, Try.ntmps9
    go_wp2_with fail
    refine CT.out.mono ?_
    rintro e w1 ⟨rfl, hb1⟩
    have HB1 := hid hb1
    have CU1 := hid (CU.out _ hb1)
    clear hb1 CT CU
    go_wp2_with fail
    refine CU1.out.mono ?_
    rintro e w2 ⟨rfl, hb2⟩
    have HB2 := hid (bb HB1.out hb2)
    clear hb2 CU1 HB1
    go_wp2_with fail
    have CP2 := hid (CP.out _ HB2.out)
    clear CP
    refine CP2.out.mono ?_
    rintro e w3 ⟨c3', rfl, hr3⟩
    have H3 := hid (RowOf.later HB2.out hr3)
    have HB3 := hid (bb HB2.out hr3.bel)
    rw [← HN.out] at H3
    clear hr3 CP2 HB2
    go_wp2_with fail
    go_loopw [8, 28] (fun v i wr => ∃ j : Nat, i = .int .i64 (j : Int) ∧ j ≤ m ∧ Hid (RowOf w wr v (editsT ts us (l.take j)))) (fun _ i _ => m - (intOf i).toNat)
    case atStart => exact ⟨0, rfl, Nat.zero_le _, by rw [List.take_zero, editsT_nil]; rw [HN.out] at H3; exact H3.out⟩
    case round =>
      clear H3 HB3
      obtain ⟨j, rfl, hj, HX⟩ := hrel
      have HB := hid HX.out.bel
      obtain ⟨a', c', hv, ht, hlc, hlm⟩ := HX.out.tkc
      subst hv
      by_cases hlt : j < m
      · have his : j < l.length := by rw [HM.out]; exact hlt
        have hin : (j : Int) < (m : Int) := by omega
        have HTS := hid (take_snocN his)
        obtain ⟨b, o, e3, hb, q0, q1, q2, q3⟩ := HE.out.below HB.out j his
        subst e3
        have hsz := HEZ.out _ (List.getElem_mem his)
        have HT := hid ht
        have HLC := hid hlc
        have C := hid (fun wx (h : Below w.heap.size w wx) (h2 : TkRow wx a' (editsT ts us (l.take j))) => cChangedI l[j] a' c' (editsT ts us (l.take j)) a2 c2 us wx h2 (editsT_tree HTT.out _) HLC.out (HR2.out.below h) HUU.out HC2.out hsz)
        obtain ⟨E, hEd⟩ : ∃ E, l[j] = E := ⟨_, rfl⟩
        have HSN := hid (editsT_snoc ts us (l.take j) l[j])
        rw [← HTS.out] at HSN
        rw [← HSN.out] at C
        rw [hEd] at C q0 q1 q2 q3
        obtain ⟨k, p, f, x⟩ := E
        unfold edV at C
        rw [HN2.out] at C
        obtain ⟨L2, hL2⟩ : ∃ L2, editsT ts us (l.take (j + 1)) = L2 := ⟨_, rfl⟩
        have HL2 := hid hL2
        rw [hL2] at C
        clear hsz hEd hL2 ht hlc hlm HX HSN
        obtain ⟨Lj, hLj⟩ : ∃ Lj, editsT ts us (l.take j) = Lj := ⟨_, rfl⟩
        rw [hLj] at C HT HLC ⊢
        clear hLj HLC
        generalize Lj.length = nj at *
        have HBE := hid ((Below.refl wr.heap.size wr).alloc (Nat.le_refl _) (.cells #[.int .i64 k, .int .i64 p, .int .i64 f, .string x] 46))
        have HBX := hid (heap_alloc_new wr (.cells #[.int .i64 k, .int .i64 p, .int .i64 f, .string x] 46))
        obtain ⟨⟨x0, x1, x2, x3⟩, f0, f1, f2, f3⟩ := box4 HBX.out
        have C2 := hid (C.out _ (bb HB.out HBE.out) (HT.out.below HBE.out))
        have HB2 := hid (bb HB.out HBE.out)
        clear C HT HB HBE HBX
        go_wp2_with fail
        refine C2.out.mono ?_
        rintro e w3 ⟨v3, b3, rfl, hr3⟩
        have H4 := hid (RowOf.later HB2.out hr3)
        clear hr3 C2 q0 q1 q2 q3 hb x0 x1 x2 x3 f0 f1 f2 f3
        go_wp2_with fail
        go_roundw
        case rel => exact ⟨j + 1, by go_num, by omega, by rw [HL2.out]; exact H4.out⟩
        case measure => simp [intOf]; omega
      · have hje : j = m := by omega
        subst hje
        have HA := hid (show l.take l.length = l from List.take_length)
        rw [HM.out] at HA
        rw [HA.out] at HX ⊢
        clear ht hlc hlm
        generalize editsT ts us l = R at *
        go_wp2_with fail
        go_ret2
        exact ⟨_, rfl, HX.out⟩
  · have HV := hid (show edB ts us l = false by unfold edB; rw [hT, hU, decide_eq_false hl]; rfl)
    have HL := hid (show edT ts us l = [] by unfold edT; rw [HV.out]; rfl)
    rw [HV.out, HL.out]
    rw [hT] at CT
    rw [hU] at CU
    obtain ⟨m, hm⟩ : ∃ m, l.length = m := ⟨_, rfl⟩
    rw [hm] at hl ⊢
    have hg : decide ((20 : Int) < (m : Int)) = true := by simp; omega
    clear HV HL hT hU hR hR2 hE hc hc2 hn hn2 hn3 hz hz2 hez hm hl
    generalize ts.length = n at *
    generalize us.length = n2 at *
    go_enter Try.func9, Try.ntmps9
    go_wp2_with fail
    refine CT.out.mono ?_
    rintro e w1 ⟨rfl, hb1⟩
    have HB1 := hid hb1
    have CU1 := hid (CU.out _ hb1)
    clear hb1 CT CU
    go_wp2_with fail
    refine CU1.out.mono ?_
    rintro e w2 ⟨rfl, hb2⟩
    have HB2 := hid (bb HB1.out hb2)
    clear hb2 CU1 HB1
    go_wp2_with fail
    go_ret2
    exact ans_nil HB2.out

end Go.Proofs.Ytkejmifkjgpdjaa
