/- The law FnOrderless, walked. -/
import Derived.Test.YtmghipjpgoghlaaGreatM36
namespace Go.Proofs.YtmghipjpgoghlaaGreat
open Go.RowKit
set_option linter.unusedVariables false
set_option linter.unusedSimpArgs false

theorem rev_next {l : List At} {q : Nat} (h : q < l.length) : (l.drop q).reverse = (l.drop (q + 1)).reverse ++ [l[q]] := by
  rw [List.drop_eq_getElem_cons h, List.reverse_cons]

theorem canB_of {ts : List Tk} {x y : Int} (h : ¬ (canonI ts x y).size = 0) : canB ts x y = true := by
  cases q : canB ts x y with
  | true => rfl
  | false => rw [canonI_no q] at h; exact absurd rfl h

theorem same_t {ts us : List Tk} (h1 : namesB ts = true) (h2 : namesB us = true) (h3 : canonI ts 0 (-1) = canonI us 0 (-1)) : sameC ts us = true := by
  unfold sameC
  rw [h1, h2, decide_eq_true h3]
  rfl

set_option maxRecDepth 8000 in
set_option maxHeartbeats 16000000 in
theorem law_order (a : Option Addr) (len cap : Nat) (w : World) (hcr : CodeB w a len) :
    Calls Tryz.prog 4 #[.slice a len cap] w fun e w' => e = .returned (.bool true) ∧ Below w.heap.size w w' := by
  by_cases hl : len ≤ 4096
  case neg =>
    have CB := hid (fun wx => cBig_yes a len cap wx hl)
    clear hcr
    go_enter Tryz.func4, Tryz.ntmps4
    go_wp2_with fail
    refine (CB.out _).mono ?_
    rintro e w1 ⟨rfl, rfl⟩
    go_wp2_with fail
    go_ret
    exact ⟨rfl, Below.refl _ _⟩
  have CB := hid (fun wx => cBig_no a len cap wx hl)
  have HCR := hid hcr
  clear hcr
  go_enter Tryz.func4, Tryz.ntmps4
  go_wp2_with fail
  refine (CB.out _).mono ?_
  rintro e w1 ⟨rfl, rfl⟩
  clear CB
  go_wp2_with fail
  refine (cDrawSame a len cap _ hl HCR.out.row).mono ?_
  rintro e w2 ⟨a1, c1, ts1, a2, c2, us1, rfl, r1, n1, z1, r2, n2, z2, hb2⟩
  have HB2 := hid hb2
  have CI := hid (cSameCanonJ a1 a2 c1 c2 ts1 us1 w2 r1 r2 (by omega) (by omega) (sz_bigS z1) (sz_bigS z2))
  have CS := hid (fun wx (hb : Below w2.heap.size w2 wx) => cSameCanonS a1 a2 c1 c2 ts1 us1 wx (r1.below hb) (r2.below hb) (by omega) (by omega) (sz_bigS z1) (sz_bigS z2))
  clear r1 n1 z1 r2 n2 z2 hb2
  generalize sameC ts1 us1 = B1 at *
  generalize ts1.length = m1 at *
  generalize us1.length = m2 at *
  have hB1 : (B1 != B1) = false := by cases B1 <;> rfl
  go_wp2_with fail
  refine CI.out.mono ?_
  rintro e w3 ⟨rfl, hb3⟩
  have HB3 := hid hb3
  clear hb3 CI
  go_wp2_with fail
  refine (CS.out _ HB3.out).mono ?_
  rintro e w4 ⟨rfl, hb4⟩
  have HB4 := hid (bb HB2.out (bb HB3.out hb4))
  clear hb4 CS HB3 HB2
  go_wp2_with fail
  refine (cDrawCanonAllZ a len cap _ hl (HCR.out.below HB4.out).row).mono ?_
  rintro e w5 ⟨a5, c5, ts, rfl, r5, n5, z5, h6, ⟨k5, k5m⟩, hb5⟩
  have HB5 := hid (bb HB4.out hb5)
  have HR5 := hid r5
  have HZ5 := hid z5
  have H6 := hid h6
  have HN5 := hid n5
  have zb := sz_bigS z5
  have CI := hid (fun wx (hb : Below w5.heap.size w5 wx) => cCanonAllJ a5 c5 ts wx (r5.below hb) (by omega) zb)
  have CS := hid (fun wx (hb : Below w5.heap.size w5 wx) => cCanonAllS a5 c5 ts wx (r5.below hb) (by omega) zb)
  have CN := hid (fun wx (hb : Below w5.heap.size w5 wx) => cNamesOkS a5 c5 ts wx (r5.below hb) (by omega) zb)
  have CTT := hid (fun wx (hb : Below w5.heap.size w5 wx) => cSameCanonJ a5 a5 c5 c5 ts ts wx (r5.below hb) (r5.below hb) (by omega) (by omega) zb zb)
  have HZB := hid zb
  obtain ⟨V, hV⟩ : ∃ V, canonI ts 0 (-1) = V := ⟨_, rfl⟩
  have HV := hid hV
  rw [hV] at CI CS
  have hVV : (V.toList != V.toList) = false := by simp
  have hVE : (V.toList == V.toList) = true := by simp
  have EV := empty_is V
  obtain ⟨n, hnn⟩ : ∃ n, ts.length = n := ⟨_, rfl⟩
  have HN := hid hnn
  rw [hnn] at CI CS CN CTT HN5 ⊢
  clear r5 n5 z5 h6 hb5 hV hnn zb HB4 k5
  go_wp2_with fail
  refine (CI.out _ (Below.refl _ _)).mono ?_
  rintro e w6 ⟨rfl, hb6⟩
  have HB6 := hid hb6
  clear hb6 CI
  go_wp2_with fail
  refine (CS.out _ HB6.out).mono ?_
  rintro e w7 ⟨rfl, hb7⟩
  have HB7 := hid (bb HB6.out hb7)
  clear hb7 CS HB6
  by_cases hv0 : V.size = 0
  · have hnb : namesB ts = false := by
      cases q : namesB ts with
      | false => rfl
      | true => exact absurd (by rw [HV.out]; exact hv0) (canon_pos q)
    rw [decide_eq_true hv0] at EV
    rw [hnb] at CN
    clear hv0 hnb
    go_wp2_with fail
    refine (CN.out _ HB7.out).mono ?_
    rintro e w8 ⟨rfl, hb8⟩
    have HB8 := hid (bb HB5.out (bb HB7.out hb8))
    clear hb8
    go_wp2_with fail
    go_ret
    exact ⟨rfl, HB8.out⟩
  have hnb : namesB ts = true := by
    have := canB_of (ts := ts) (x := 0) (y := -1) (by rw [HV.out]; exact hv0)
    unfold canB at this
    rw [Bool.and_eq_true] at this
    exact this.1
  rw [decide_eq_false hv0] at EV
  have HNB := hid hnb
  rw [show sameC ts ts = true from same_t hnb hnb rfl] at CTT
  have hTP : TreeP ts := by
    have h2 := hnb
    unfold namesB at h2
    have h3 : NamesP ts := by simpa using h2
    exact h3.1
  have hn0 : 0 < n := by rw [← HN.out]; exact hTP.1
  have HT := hid hTP
  clear hv0 hnb CN hTP
  obtain ⟨tb, tof, aa0, ca0, ha5, -⟩ := HR5.out 0 (by rw [HN.out]; exact hn0)
  subst ha5
  have HR7 := hid (HR5.out.below HB7.out)
  obtain ⟨es, e1, e2, e3⟩ := rowE HR7.out ts.length (Nat.le_refl _)
  rw [List.take_length] at e1
  have hel : es.length = n := by rw [← HN.out, ← e1, List.length_map]
  have HES := hid (And.intro e1 (And.intro e2 (And.intro e3 hel)))
  clear e1 e2 e3 hel
  obtain ⟨i0, hi, hz0, hz1, hz2⟩ := info_parts infoNdW
  have HI := hid (And.intro hi (And.intro hz0 (And.intro hz1 hz2)))
  clear hi hz0 hz1 hz2
  obtain ⟨j0, hi, hz0, hz1, hz2⟩ := info_parts infoAtW
  have HJ := hid (And.intro hi (And.intro hz0 (And.intro hz1 hz2)))
  clear hi hz0 hz1 hz2
  have hn11 := HN5.out
  have HA7 := hid ((Below.refl w7.heap.size w7).alloc (Nat.le_refl _) (.cells #[] 33))
  go_wp2_with (at_builtin; refine wpList_append_own_at _ rfl _ _ 24 rfl w7.heap.size 33 i0 _ 4 64 Tryz.underlying24 HI.out.1 HI.out.2.1 HI.out.2.2.1 HI.out.2.2.2 rfl (by decide) _ 0 [] rfl (made_own w7 w7.heap.size _ _ (Nat.le_refl _)) ⟨tb, tof, none⟩ n c5 (Nd.cs es) rfl (by rw [Nd.cs_len, HES.out.2.2.2]) (fun j u hj => (HA7.out.cell (World.block_lt_of_cell? w7 _ (HES.out.2.1 j u hj))).trans (HES.out.2.1 j u hj)) (Nd.cs_cell es) (by unfold maxLen; omega) (by omega) (by simp) ?_)
  intro v8 w8 hown8 hgrow8 _ _
  first | rw [Nat.zero_add, List.nil_append] at hown8 | skip
  obtain ⟨g, c8, rfl, hg8, _⟩ := own_some hown8 hn0
  have hk8 : ∀ k, (Value.slice (some ⟨w7.heap.size, 0, none⟩) 0 0).ownBlock = some k → w7.heap.size ≤ k := fun k hk => by
    have h9 : w7.heap.size = k := by simpa [Value.ownBlock] using hk
    omega
  have HB8 := hid (show Below w7.heap.size w7 w8 from HA7.out.grown hgrow8 HA7.out.size hk8)
  have HX0 := hid (show XSt w7 w8 g c8 ts 0 es from ⟨HB8.out, by rw [HN.out]; exact hown8, fun e he => (HES.out.2.2.1 e he).below HB8.out, by rw [HES.out.2.2.2, HN.out], fun j t _ h => absurd h (Nat.not_lt_zero _), fun j t hj _ => by
    have hj2 : (es.map (·.t))[j]? = some t := by rw [HES.out.1]; exact hj
    rw [List.getElem?_map] at hj2
    obtain ⟨e, q1, q2⟩ := Option.map_eq_some_iff.1 hj2
    exact ⟨e, q1, q2⟩⟩)
  clear hk8 hown8 hgrow8 hg8 HA7 HES HI HR7
  go_wp2_with fail
  go_loopw [8] (fun v8 wr => ∃ (i : Nat) (es : List Nd.E), v8 = .int .i64 (i : Int) ∧ i ≤ n ∧ Hid (XSt w7 wr g c8 ts i es)) (fun k _ => n - (intOf k).toNat)
  case atStart => exact ⟨0, es, rfl, Nat.zero_le _, HX0.out⟩
  case round =>
    clear HX0 HB8
    obtain ⟨i, es, rfl, hi, HX⟩ := hrel
    by_cases hlt : i < n
    · have hit : i < ts.length := by rw [HN.out]; exact hlt
      have hin : (i : Int) < (n : Int) := by omega
      obtain ⟨wo, rfl⟩ : ∃ wo : World, wo = wr := ⟨wr, rfl⟩
      obtain ⟨aa, ca, q1, q2, q3, hra, hg1, hg2⟩ := HX.out.read hit
      have HRA := hid hra
      have HQ := hid (And.intro q1 (And.intro q2 hg2))
      have hAZ := (HZ5.out _ (List.getElem_mem hit)).2.1
      obtain ⟨t, ht⟩ : ∃ t, ts[i] = t := ⟨_, rfl⟩
      have HTI := hid ht
      rw [ht] at HRA HQ hAZ
      obtain ⟨nA, hnA⟩ : ∃ nA, t.attrs.length = nA := ⟨_, rfl⟩
      have HNA := hid hnA
      rw [hnA] at HQ hAZ
      clear hra ht hnA q1 q2 q3
      have HBN := hid ((Below.refl wo.heap.size wo).alloc (Nat.le_refl _) (.cells #[] 42))
      have HON := hid (made_own wo wo.heap.size 42 2 (Nat.le_refl _))
      obtain ⟨wn, hwn⟩ : ∃ wn, wo.alloc (.cells #[] 42) = wn := ⟨_, rfl⟩
      rw [hwn] at HBN HON
      have q2 := (HBN.out.cell (p := ⟨g, i * 4 + 2, none⟩) HQ.out.2.2).trans HQ.out.2.1
      have HWN := hid hwn
      clear hwn
      have hwn := HWN.out
      go_wp2_with fail
      clear hwn q2
      go_loopw [9, 10] (fun v9 v10 wy => ∃ (j : Nat) (a9 : Option Addr) (c9 : Nat), v10 = .int .i64 ((j : Int) - 1) ∧ j ≤ nA ∧ v9 = .slice a9 (nA - j) c9 ∧ Hid (wy.ownsRow wo.heap.size 42 2 (.slice a9 (nA - j) c9) (nA - j) (atC (t.attrs.drop j).reverse)) ∧ Hid (Below wo.heap.size wo wy)) (fun _ v10 _ => (intOf v10 + 1).toNat)
      case atStart => exact ⟨nA, some ⟨wo.heap.size, 0, none⟩, 0, rfl, Nat.le_refl _, by rw [Nat.sub_self], by
        show World.ownsRow _ _ _ _ _ _ _
        rw [Nat.sub_self, List.drop_of_length_le (by rw [HNA.out]; exact Nat.le_refl _)]
        exact HON.out, HBN.out⟩
      case round =>
        obtain ⟨j, a9, c9, rfl, hj, rfl, HO, HBy⟩ := hrel
        have q2 := (HBy.out.cell (p := ⟨g, i * 4 + 2, none⟩) HQ.out.2.2).trans HQ.out.2.1
        cases j with
        | succ q =>
          have hq : q < t.attrs.length := by rw [HNA.out]; omega
          obtain ⟨bq, oq, rfl, hbq, d1, d2⟩ := (HRA.out.below HBy.out) q hq
          have HRN := hid (rev_next hq)
          obtain ⟨y, hy⟩ : ∃ y, t.attrs[q] = y := ⟨_, rfl⟩
          rw [hy] at d1 d2 HRN
          clear hy
          have e1 : ((q + 1 : Nat) : Int) - 1 = (q : Int) := by omega
          rw [e1]
          have hqn : (q : Int) < (nA : Int) := by omega
          have hsz := HBy.out.size
          obtain ⟨m, hm⟩ : ∃ m, nA - (q + 1) = m := ⟨_, rfl⟩
          have HM := hid hm
          rw [hm] at HO ⊢
          have hm40 : m ≤ 40 := by omega
          clear hm
          go_wp2_with (at_builtin; refine wpList_append_own_at _ rfl _ _ 31 rfl wo.heap.size 42 j0 _ 2 32 Tryz.underlying31 HJ.out.1 HJ.out.2.1 HJ.out.2.2.1 HJ.out.2.2.2 rfl (by decide) _ _ _ rfl (HO.out.alloc _) ⟨wr.heap.size, 0, none⟩ 1 1 [.string y.name, .string y.value] rfl rfl (two_cell _ _ _ _) (two_str _ _) (by unfold maxLen; omega) (by omega) (by simp; omega) ?_)
          intro v' w9 hown' hgrow _ _
          have HB9 := hid ((HBy.out.alloc hsz _).grown hgrow (by simp; omega) (fun k hk => (HO.out.lt k hk).1))
          have e2 : atC (t.attrs.drop (q + 1)).reverse ++ [.string y.name, .string y.value] = atC (t.attrs.drop q).reverse := by rw [HRN.out]; simp [atC]
          have e3 : m + 1 = nA - q := by have := HM.out; omega
          rw [e2, e3] at hown'
          obtain ⟨g9, c10, rfl, _, _⟩ := own_some hown' (by omega)
          have HO9 := hid hown'
          clear hown' hgrow e2 e3 d1 d2 q2
          obtain ⟨m2, hm2⟩ : ∃ m2, nA - q = m2 := ⟨_, rfl⟩
          have HM2 := hid hm2
          rw [hm2] at HO9 ⊢
          clear hm2
          go_wp2_with fail
          go_roundw
          case rel => exact ⟨q, some ⟨g9, 0, none⟩, c10, by go_num, by omega, by rw [HM2.out], by rw [HM2.out]; exact HO9.out, HB9.out⟩
          case measure => simp [intOf]
        | zero =>
          have e1 : ((0 : Nat) : Int) - 1 = -1 := rfl
          rw [e1]
          simp only [Nat.sub_zero, List.drop_zero] at HO ⊢
          have HL0 := hid (show t.attrs.reverse.length = nA by rw [List.length_reverse]; exact HNA.out)
          have q1 := (HBy.out.cell (p := ⟨g, i * 4 + 1, none⟩) HQ.out.2.2).trans HQ.out.1
          have HXy := hid (HX.out.below HBy.out)
          have HZT := hid (show ∀ z : Bool, (z = true → nA < 6 ∧ ¬ t.name.size = 0) → z = true → ts[i].attrs.length < 6 ∧ ¬ ts[i].name.size = 0 from fun z h hz => by rw [HTI.out, HNA.out]; exact h hz)
          have EN := empty_is t.name
          have EN2 : (!t.name.toList.isEmpty) = !decide (t.name.size = 0) := by rw [EN]
          have CP := hid (cPick i 2 a len cap _ (by omega) (by omega) (by omega) hl ((HCR.out.below HB5.out).below (bb HB7.out HXy.out.bel)))
          have HZN := hid (show ∀ z : Bool, z = false → t.attrs.reverse = ts[i].attrs.reverse ++ (if z then [zzA] else []) from fun z hz => by rw [hz, HTI.out]; simp)
          clear q2
          by_cases h6 : nA < 6
          · have h6i : (nA : Int) < 6 := by omega
            by_cases hnm : t.name.size = 0
            · rw [decide_eq_true hnm] at EN EN2
              have HAR := hid ((NewAts.of (l := t.attrs.reverse) (by rw [HL0.out]; exact HO.out)).row)
              obtain ⟨es', hes⟩ := HXy.out.store hit (z := false) (c9 := c9) (by intro h; cases h) (HZN.out false rfl) HAR.out
              have HXN := hid hes
              rw [HL0.out] at HXN
              obtain ⟨aa2, ca2, _, r2, r3, _⟩ := HXy.out.read hit
              clear hes hnm
              go_wp2_with fail
              go_roundw
              case rel => exact ⟨i + 1, es', by go_num, by omega, HXN.out⟩
              case measure => simp [intOf]; omega
            · rw [decide_eq_false hnm] at EN EN2
              have HNM := hid hnm
              clear hnm
              go_wp2_with fail
              refine CP.out.mono ?_
              rintro e wp ⟨pk, rfl, hpk, hwp⟩
              subst hwp
              by_cases hp0 : pk = 0
              · subst hp0
                have hsz := HBy.out.size
                go_wp2_with (at_builtin; refine wpList_append_own_at _ rfl _ _ 31 rfl wo.heap.size 42 j0 _ 2 32 Tryz.underlying31 HJ.out.1 HJ.out.2.1 HJ.out.2.2.1 HJ.out.2.2.2 rfl (by decide) _ _ _ rfl (HO.out.alloc _) ⟨_, 0, none⟩ 1 1 [.string ⟨#[110, 115, 58, 122, 122, 122]⟩, .string ⟨#[110, 111, 110, 101]⟩] rfl rfl (two_cell _ _ _ _) (two_str _ _) (by unfold maxLen; omega) (by omega) (by simp; omega) ?_)
                intro v' w9 hown' hgrow _ _
                have HB9 := hid ((HBy.out.alloc hsz _).grown hgrow (by simp; omega) (fun k hk => (HO.out.lt k hk).1))
                rw [← HL0.out] at hown'
                obtain ⟨a10, c10, rfl, ho10⟩ := ats_more (q := zzA) hown'
                have HAR := hid ((NewAts.of ho10).row)
                have HX9 := hid (HX.out.below HB9.out)
                have HLZ := hid (show t.attrs.reverse ++ [zzA] = ts[i].attrs.reverse ++ (if true then [zzA] else []) by rw [HTI.out]; rfl)
                obtain ⟨es', hes⟩ := HX9.out.store hit (z := true) (c9 := c10) (HZT.out true (fun _ => ⟨h6, HNM.out⟩)) HLZ.out HAR.out
                have HXN := hid hes
                obtain ⟨aa2, ca2, _, r2, r3, _⟩ := HX9.out.read hit
                generalize (t.attrs.reverse ++ [zzA]).length = nz at *
                clear hown' hgrow ho10 hes q1
                go_wp2_with fail
                go_roundw
                case rel => exact ⟨i + 1, es', by go_num, by omega, HXN.out⟩
                case measure => simp [intOf]; omega
              · have hpz : ((pk : Int) == 0) = false := by simp; omega
                have HAR := hid ((NewAts.of (l := t.attrs.reverse) (by rw [HL0.out]; exact HO.out)).row)
                obtain ⟨es', hes⟩ := HXy.out.store hit (z := false) (c9 := c9) (by intro h; cases h) (HZN.out false rfl) HAR.out
                have HXN := hid hes
                rw [HL0.out] at HXN
                obtain ⟨aa2, ca2, _, r2, r3, _⟩ := HXy.out.read hit
                clear hes hp0
                go_wp2_with fail
                go_roundw
                case rel => exact ⟨i + 1, es', by go_num, by omega, HXN.out⟩
                case measure => simp [intOf]; omega
          · have h6i : ¬ (nA : Int) < 6 := by omega
            have HAR := hid ((NewAts.of (l := t.attrs.reverse) (by rw [HL0.out]; exact HO.out)).row)
            obtain ⟨es', hes⟩ := HXy.out.store hit (z := false) (c9 := c9) (by intro h; cases h) (HZN.out false rfl) HAR.out
            have HXN := hid hes
            rw [HL0.out] at HXN
            obtain ⟨aa2, ca2, _, r2, r3, _⟩ := HXy.out.read hit
            clear hes
            go_wp2_with fail
            go_roundw
            case rel => exact ⟨i + 1, es', by go_num, by omega, HXN.out⟩
            case measure => simp [intOf]; omega
    · have hin : ¬ (i : Int) < (n : Int) := by omega
      obtain ⟨fr, ft, fl⟩ := HX.out.fin (by rw [HN.out]; omega)
      obtain ⟨ta1, ta2⟩ := turn_all HNB.out H6.out ft
      have fz := turn_sz ft HZ5.out (fun t ht => (HZ5.out t ht).2.1)
      rw [HV.out] at ta2
      have HBW := hid (bb HB7.out HX.out.bel)
      have CX := hid (cCanonAllJ (some ⟨g, 0, none⟩) c8 (es.map (·.t)) wr fr (by rw [fl, HN.out]; omega) fz)
      have CXT := hid (fun wx (hb : Below wr.heap.size wr wx) => cSameCanonJ (some ⟨g, 0, none⟩) (some ⟨tb, tof, none⟩) c8 c5 (es.map (·.t)) ts wx (fr.below hb) (HR5.out.below (bb HBW.out hb)) (by rw [fl, HN.out]; omega) (by rw [HN.out]; omega) fz HZB.out)
      rw [same_t ta1 HNB.out (by rw [ta2, HV.out])] at CXT
      rw [ta2, fl, HN.out] at CX
      rw [fl, HN.out] at CXT
      clear fr ft fl ta1 ta2 fz
      go_wp2_with fail
      refine CX.out.mono ?_
      rintro e w10 ⟨rfl, hb10⟩
      have HB10 := hid hb10
      clear hb10 CX
      go_wp2_with fail
      refine (CXT.out _ HB10.out).mono ?_
      rintro e w11 ⟨rfl, hb11⟩
      have HB11 := hid (bb HBW.out (bb HB10.out hb11))
      clear hb11 CXT
      go_wp2_with fail
      refine (CTT.out _ HB11.out).mono ?_
      rintro e w12 ⟨rfl, hb12⟩
      have HB12 := hid (bb HB5.out (bb HB11.out hb12))
      clear hb12 CTT
      go_wp2_with fail
      go_ret
      exact ⟨rfl, HB12.out⟩

end Go.Proofs.YtmghipjpgoghlaaGreat
