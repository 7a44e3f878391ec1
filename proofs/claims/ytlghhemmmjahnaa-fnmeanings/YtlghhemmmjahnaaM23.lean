/- The road of FnMeanings. -/
import Derived.Test.YtlghhemmmjahnaaM22
namespace Go.Proofs.Ytlghhemmmjahnaa
open Go.RowKit
set_option linter.unusedVariables false
set_option linter.unusedSimpArgs false

theorem more_sz {ts : List Tk} {k : Nat} {t : Tk} {x : At} (hz : TksSz 1048576 ts) (h : ts[k]? = some t) (h5 : t.attrs.length ≤ 5) (h1 : x.name.size ≤ 1048576) (h2 : x.value.size ≤ 1048576) : TksSz 1048576 (moreT ts k t x) := by
  intro u hu
  unfold moreT at hu
  rcases List.mem_or_eq_of_mem_set hu with h' | h'
  · exact hz u h'
  · subst h'
    obtain ⟨z1, z2, z3, z4⟩ := hz t (List.mem_of_getElem? h)
    refine ⟨z1, ?_, fun y hy => ?_, z4⟩
    · show (t.attrs ++ [x]).length ≤ _
      rw [List.length_append]
      show _ + 1 ≤ _
      omega
    · rcases List.mem_append.1 hy with h' | h'
      · exact z3 y h'
      · rw [List.mem_singleton] at h'
        subst h'
        exact ⟨h1, h2⟩

theorem nmP_sz {p : ByteArray} (hp : prefS p) : (nmP p).size ≤ 4 := by
  rcases hp with rfl | rfl | rfl | rfl <;> decide

theorem find_all {l : List At} {p : ByteArray} (hp : prefS p) (hl : AttrsOk l) (h : l.find? (declB p) = none) : ∀ y ∈ l, ¬ y.name = nmP p := by
  intro y hy e
  obtain ⟨j, hj, rfl⟩ := List.getElem_of_mem hy
  have h1 := List.find?_eq_none.1 h _ hy
  exact h1 ((declB_nm hp (hl.2.1 j hj hj).1).2 e)

set_option maxRecDepth 8000 in
set_option maxHeartbeats 16000000 in
theorem law_mean (a : Option Addr) (len cap : Nat) (w : World) (hcr : CodeRow w a len) :
    Calls Try.prog 3 #[.slice a len cap] w fun e w' => e = .returned (.bool true) ∧ Below w.heap.size w w' := by
  by_cases hl : len ≤ 4096
  case neg =>
    have CB := hid (fun wx => cBig_yes a len cap wx hl)
    clear hcr
    go_enter Try.func3, Try.ntmps3
    go_wp2_with fail
    refine (CB.out _).mono ?_
    rintro e w1 ⟨rfl, rfl⟩
    go_wp2_with fail
    go_ret
    exact ⟨rfl, Below.refl _ _⟩
  have CB := hid (fun wx => cBig_no a len cap wx hl)
  have HCR := hid hcr
  clear hcr
  go_enter Try.func3, Try.ntmps3
  go_wp2_with fail
  refine (CB.out _).mono ?_
  rintro e w1 ⟨rfl, rfl⟩
  clear CB
  go_wp2_with fail
  refine (cDrawMeaning a len cap _ hl HCR.out).mono ?_
  rintro e w2 ⟨a2, c2, ts, x, p, rfl, hr2, hn2, hz2, hx1, hx2, hp, hb2⟩
  have hps : p.size ≤ 1 := by rcases hp with rfl | rfl | rfl | rfl <;> decide
  have HP := hid (show prefS p from hp)
  have HZ := hid hz2.big
  have HR2 := hid hr2
  have HB2 := hid hb2
  have CI := hid (fun (y : Int) wx (h : TkRow wx a2 ts) => cMeaningI a2 c2 ts y p wx h (by omega) HZ.out (by omega))
  have CS := hid (fun wx (h : TkRow wx a2 ts) => cMeaningS a2 c2 ts x p wx h (by omega) HZ.out (by omega))
  have CI1 := hid (fun wx h => CI.out x wx h)
  obtain ⟨V, hV⟩ : ∃ V, (meanI ts x p).getD ⟨#[]⟩ = V := ⟨_, rfl⟩
  obtain ⟨B, hB⟩ : ∃ B, (meanI ts x p).isSome = B := ⟨_, rfl⟩
  have HVB := hid (And.intro hV hB)
  rw [hV, hB] at CS CI1
  obtain ⟨n, hnn⟩ : ∃ n, ts.length = n := ⟨_, rfl⟩
  have HN := hid hnn
  rw [hnn] at CI CI1 CS hn2 ⊢
  clear hr2 hz2 hb2 hp hV hB hnn
  go_wp2_with fail
  refine (CI1.out _ HR2.out).mono ?_
  rintro e w3 ⟨rfl, hb3⟩
  have HR3 := hid (HR2.out.below hb3)
  have HB3 := hid (bb HB2.out hb3)
  have HCR3 := hid (code_below HCR.out HB3.out)
  clear hb3 HR2 HB2 CI1
  go_wp2_with fail
  refine (cDrawKnown a len cap _ hl HCR3.out).mono ?_
  rintro e w4 ⟨a4, c4, us, y, lc, mg, rfl, hr4, hn4, hz4, hl4, hm4, hy, hb4⟩
  have HZ4 := hid hz4.big
  have CKI := hid (fun wx (h : TkRow wx a4 us) => cKnownI a4 c4 us y lc mg wx h (by omega) HZ4.out hl4 hm4)
  have CKS := hid (fun wx (h : TkRow wx a4 us) => cKnownS a4 c4 us y lc mg wx h (by omega) HZ4.out)
  obtain ⟨K, hK⟩ : ∃ K, knownI us y lc mg = K := ⟨_, rfl⟩
  rw [hK] at CKI CKS
  have HU4 := hid hr4
  have HR4 := hid (HR3.out.below hb4)
  have HB4 := hid (bb HB3.out hb4)
  have HCR4 := hid (code_below HCR3.out hb4)
  obtain ⟨n4, hnn4⟩ : ∃ n4, us.length = n4 := ⟨_, rfl⟩
  rw [hnn4] at CKI CKS hn4 ⊢
  clear hr4 hz4 hb4 hK hnn4 HCR3 HR3 HB3 HZ4
  go_wp2_with fail
  refine (cDrawNamesOk a len cap _ hl HCR4.out).mono ?_
  rintro e w5 ⟨a5, c5, vs, rfl, hr5, hn5, hz5, hb5⟩
  have HZ5 := hid hz5.big
  have CNI := hid (fun wx (h : TkRow wx a5 vs) => cNamesOkI a5 c5 vs wx h (by omega) HZ5.out)
  have CNS := hid (fun wx (h : TkRow wx a5 vs) => cNamesOkS a5 c5 vs wx h (by omega) HZ5.out)
  obtain ⟨G, hG⟩ : ∃ G, namesB vs = G := ⟨_, rfl⟩
  rw [hG] at CNI CNS
  have HW5 := hid hr5
  have HU5 := hid (HU4.out.below hb5)
  have HR5 := hid (HR4.out.below hb5)
  have HB5 := hid (bb HB4.out hb5)
  obtain ⟨n5, hnn5⟩ : ∃ n5, vs.length = n5 := ⟨_, rfl⟩
  rw [hnn5] at CNI CNS hn5 ⊢
  clear hr5 hz5 hb5 hG hnn5 HCR4 HU4 HR4 HB4 HZ5
  go_wp2_with fail
  refine (CS.out _ HR5.out).mono ?_
  rintro e w6 ⟨rfl, hb6⟩
  have HW6 := hid (HW5.out.below hb6)
  have HU6 := hid (HU5.out.below hb6)
  have HR6 := hid (HR5.out.below hb6)
  have HB6 := hid (bb HB5.out hb6)
  clear hb6 HW5 HU5 HR5 HB5 CS
  have hVV : (V.toList == V.toList) = true := by simp
  have hBB : (B == B) = true := by simp
  have hKK : (K == K) = true := by simp
  have hGG : (G == G) = true := by simp
  go_wp2_with fail
  refine (CKI.out _ HU6.out).mono ?_
  rintro e w7 ⟨rfl, hb7⟩
  have HW7 := hid (HW6.out.below hb7)
  have HU7 := hid (HU6.out.below hb7)
  have HR7 := hid (HR6.out.below hb7)
  have HB7 := hid (bb HB6.out hb7)
  clear hb7 HW6 HU6 HR6 HB6 CKI
  go_wp2_with fail
  refine (CKS.out _ HU7.out).mono ?_
  rintro e w8 ⟨rfl, hb8⟩
  have HW8 := hid (HW7.out.below hb8)
  have HR8 := hid (HR7.out.below hb8)
  have HB8 := hid (bb HB7.out hb8)
  clear hb8 HW7 HU7 HR7 HB7 CKS
  go_wp2_with fail
  refine (CNI.out _ HW8.out).mono ?_
  rintro e w9 ⟨rfl, hb9⟩
  have HW9 := hid (HW8.out.below hb9)
  have HR9 := hid (HR8.out.below hb9)
  have HB9 := hid (bb HB8.out hb9)
  clear hb9 HW8 HR8 HB8 CNI
  go_wp2_with fail
  refine (CNS.out _ HW9.out).mono ?_
  rintro e w10 ⟨rfl, hb10⟩
  have HR := hid (HR9.out.below hb10)
  have HB := hid (bb HB9.out hb10)
  clear hb10 HW9 HR9 HB9 CNS
  cases B with
  | false =>
    have HV0 := hid (show V = ⟨#[]⟩ by
      rw [← HVB.out.1]
      cases hm : meanI ts x p with
      | none => rfl
      | some z => have := HVB.out.2; rw [hm] at this; cases this)
    have hve : V.toList.isEmpty = true := by rw [empty_is, HV0.out]; rfl
    go_wp2_with fail
    go_ret
    exact ⟨rfl, HB.out⟩
  | true =>
    have hel := meanI_some HVB.out.2
    obtain ⟨_, k, rfl, hkl⟩ := elemB_t hel
    obtain ⟨hT, t, ht, _, hne⟩ := elemB_el hel
    have hmf : meanF ts k p = some V := by
      have h1 := HVB.out
      rw [meanI_el hel] at h1
      cases hm : meanF ts k p with
      | none => rw [hm] at h1; cases h1.2
      | some z => rw [hm] at h1; rw [← h1.1]; rfl
    have HSM := hid (show (meanF ts k p).isSome = true by rw [hmf]; rfl)
    have HT := hid hT
    have HTT := hid ht
    have HNE := hid hne
    have HMF := hid hmf
    have HAO := hid (tree_attrs hT ht hne)
    have htk : ts[k] = t := by rw [List.getElem?_eq_getElem hkl] at ht; exact Option.some.inj ht
    obtain ⟨b, o, aa, ca, e', hb, q0, q1, q2, q3, hA⟩ := HR.out k hkl
    subst e'
    rw [htk] at q0 q2 hA
    have hkn : (k : Int) < (n : Int) := by have := HN.out; omega
    have HA := hid hA
    obtain ⟨nA, hnA⟩ : ∃ nA, t.attrs.length = nA := ⟨_, rfl⟩
    have HNA := hid hnA
    have HKL := hid hkl
    rw [hnA] at q2
    clear hT ht hne hmf htk hA hnA hkl hel q1 q3 HVB hKK hGG hBB
    by_cases h5 : nA ≤ 5
    case neg =>
      have h5d : decide ((5 : Int) < (nA : Int)) = true := by simp; omega
      go_wp2_with fail
      go_ret
      exact ⟨rfl, HB.out⟩
    have h5d : decide ((5 : Int) < (nA : Int)) = false := by simp; omega
    have E := empty_is p
    obtain ⟨D, hD⟩ : ∃ D : Bool, decide (p.size = 0) = D := ⟨_, rfl⟩
    rw [hD] at E
    have HD := hid hD
    clear hD
    go_upto_if 99 with fail
    go_cut [15] from 98 to 101 (fun v wv => v = .string (nmP p) ∧ Hid (w10 = wv))
    case first =>
      cases D with
      | true =>
        have HNM := hid (show nmP p = nsS by unfold nmP; rw [if_pos (of_decide_eq_true HD.out)])
        go_wp2_with fail
        go_meet
        exact ⟨by rw [HNM.out]; rfl, rfl⟩
      | false =>
        have HNM := hid (show nmP p = ⟨#[110, 115, 58]⟩ ++ p by unfold nmP; rw [if_neg (of_decide_eq_false HD.out)])
        go_wp2_with fail
        go_meet
        exact ⟨by rw [HNM.out], rfl⟩
    obtain ⟨rfl, HWC⟩ := hcut
    have hwc := HWC.out
    subst hwc
    clear HWC E HD
    go_wp2_with fail
    go_loop [16] (fun v => ∃ i : Nat, i ≤ nA ∧ v = .int .i64 i ∧ Hid ((t.attrs.take i).find? (declB p) = none)) (fun v => nA - (intOf v).toNat)
    case atStart => exact ⟨0, Nat.zero_le _, rfl, rfl⟩
    case round =>
      obtain ⟨i, hi, rfl, HF⟩ := hrel
      by_cases hlt : i < nA
      · have hil : i < t.attrs.length := by rw [HNA.out]; exact hlt
        have hin : (i : Int) < (nA : Int) := by omega
        obtain ⟨b2, o2, rfl, hb2, e1, e2⟩ := HA.out i hil
        have hnm := declB_nm HP.out (HAO.out.2.1 i hil hil).1
        by_cases hq : t.attrs[i].name = nmP p
        · have hqq : (t.attrs[i].name.toList == (nmP p).toList) = true := by rw [str_beq]; exact decide_eq_true hq
          have hm := mean_here HT.out HTT.out hil HF.out (hnm.2 hq) HSM.out
          rw [HMF.out] at hm
          have hvv : (t.attrs[i].value.toList == V.toList) = true := by rw [str_beq]; exact decide_eq_true (Option.some.inj hm).symm
          clear hm hq hnm
          generalize t.attrs[i].name = y1 at *
          generalize t.attrs[i].value = y2 at *
          go_wp2_with fail
          go_ret
          exact ⟨rfl, HB.out⟩
        · have hqq : (t.attrs[i].name.toList == (nmP p).toList) = false := by rw [str_beq]; exact decide_eq_false hq
          have HF2 := hid (find_snoc hil HF.out (by
            cases hd : declB p t.attrs[i] with
            | false => rfl
            | true => exact absurd (hnm.1 hd) hq))
          clear hq hnm
          generalize t.attrs[i].name = y1 at *
          generalize t.attrs[i].value = y2 at *
          go_wp2_with fail
          go_round
          case rel => exact ⟨i + 1, by omega, by go_num, HF2.out⟩
          case measure => simp [intOf]; omega
      · have hie : i = nA := by omega
        subst hie
        have HNO := hid (show t.attrs.find? (declB p) = none by
          have h := HF.out
          rw [List.take_of_length_le (by rw [HNA.out]; exact Nat.le_refl _)] at h
          exact h)
        clear HF hi hlt
        have HKD := hid (show (k = 0 ∧ t.kind = -1) ∨ (¬ k = 0 ∧ ∃ q : Nat, (q : Int) = t.kind ∧ meanI ts (q : Int) p = some V) by
          by_cases hk0 : k = 0
          · left
            have h1 := HT.out.2.2.1
            have h2 := HTT.out
            rw [hk0] at h2
            unfold parI at h1
            rw [h2] at h1
            exact ⟨hk0, h1⟩
          · right
            obtain ⟨q, hq1, hq2, hq3, hq4⟩ := mean_out HT.out HTT.out hk0 HNO.out HSM.out
            exact ⟨hk0, q, hq1, by rw [meanI_el (elemB_of HT.out hq3), hq4, HMF.out]⟩)
        obtain ⟨KD, hKD⟩ : ∃ KD, t.kind = KD := ⟨_, rfl⟩
        obtain ⟨UP, hUP⟩ : ∃ UP : Bool, decide (0 ≤ KD) = UP := ⟨_, rfl⟩
        rw [hKD] at q0 HKD
        have HUP := hid hUP
        go_upto_if 140 with fail
        go_cut [18, 19] from 139 to 154 (fun _ _ wv => Hid (Below w10.heap.size w10 wv))
        case first =>
          clear hUP
          rcases HKD.out with ⟨h0, h1⟩ | ⟨h0, q, h1, h2⟩
          · have hu : UP = false := by rw [← HUP.out, h1]; rfl
            subst hu
            clear h0 h1
            go_wp2_with fail
            go_meet
            exact Below.refl _ _
          · have hu : UP = true := by rw [← HUP.out, ← h1]; exact decide_eq_true (by omega)
            subst hu
            have CQ := hid (CI.out (q : Int) w10 HR.out)
            rw [h2, h1] at CQ
            simp only [Option.getD_some, Option.isSome_some] at CQ
            clear h0 h1 h2
            go_wp2_with fail
            refine CQ.out.mono ?_
            rintro e w11 ⟨rfl, hb11⟩
            have HB11 := hid hb11
            clear hb11 CQ
            go_wp2_with fail
            go_meet
            exact HB11.out
        have HBC := hid hcut
        have HRC := hid (HR.out.below hcut.out)
        have HBW := hid (bb HB.out hcut.out)
        have HQ2 := hid (And.intro q2 hb)
        have hbw : b < wc.heap.size := Nat.lt_of_lt_of_le hb HBC.out.out.size
        clear hcut HB HR CI q0 q2 hUP HUP HKD hb
        obtain ⟨es, hes, hcl, hats⟩ := rowE HRC.out ts.length (Nat.le_refl _)
        rw [List.take_of_length_le (Nat.le_refl _)] at hes
        have hel : es.length = n := by rw [← HN.out, ← hes, List.length_map]
        have HES := hid (And.intro hes (And.intro (show ∀ j u, (Nd.cs es)[j]? = some u → (wc.alloc (.cells #[] 36)).cell? ((⟨b, o, none⟩ : Addr).add j) = some u from fun j u h => by
          have h1 := hcl j u h
          rw [add_plainW] at h1 ⊢
          exact cell_alloc h1 hbw _) hel))
        obtain ⟨i0, hi0, hz0, hz1, hz2⟩ := info_parts infoNdW
        obtain ⟨j0, hj0, hy0, hy1, hy2⟩ := info_parts infoAtW
        have HI := hid (And.intro hi0 (And.intro hz0 (And.intro hz1 hz2)))
        have HJ := hid (And.intro hj0 (And.intro hy0 (And.intro hy1 hy2)))
        have HATS := hid hats
        have hn0 : 0 < n := by omega
        clear hes hcl hel hats hi0 hz0 hz1 hz2 hj0 hy0 hy1 hy2
        go_wp2_with (at_builtin; refine wpList_append_own_at _ rfl _ _ 24 rfl wc.heap.size 36 i0 _ 4 64 Try.underlying24 HI.out.1 HI.out.2.1 HI.out.2.2.1 HI.out.2.2.2 rfl (by decide) _ 0 [] rfl (made_own wc wc.heap.size _ _ (Nat.le_refl _)) ⟨b, o, none⟩ n c2 (Nd.cs es) rfl (by rw [Nd.cs_len, HES.out.2.2]) HES.out.2.1 (Nd.cs_cell es) (by unfold maxLen; omega) (by omega) (by simp) ?_)
        intro v12 w12 hO12 hG12 _ _
        obtain ⟨gm, cm, rfl, hgm, hgm2⟩ := own_some hO12 hn0
        have HB12 := hid (((Below.refl wc.heap.size wc).alloc (Nat.le_refl _) (.cells #[] 36)).grown hG12 (by simp) (fun k hk => ((made_own wc wc.heap.size 36 4 (Nat.le_refl _)).lt k hk).1))
        have HO12 := hid hO12
        have HG12 := hid (And.intro hgm hgm2)
        clear hO12 hG12 hgm hgm2
        have HT12 := hid (bb HBC.out.out HB12.out)
        have HAW := hid ((HA.out.below HT12.out).below ((Below.refl _ _).alloc (Nat.le_refl _) (.cells #[] 38)))
        have d2 := cell_alloc ((HT12.out.cell (p := ⟨b, o + k * 4 + 2, none⟩) HQ2.out.2).trans HQ2.out.1) (Nat.lt_of_lt_of_le HQ2.out.2 HT12.out.size) (.cells #[] 38)
        go_wp2_with (at_builtin; refine wpL_ats _ rfl _ _ rfl w12.heap.size w12.heap.size rfl (made_own w12 w12.heap.size _ _ (Nat.le_refl _)) aa t.attrs i ca HNA.out rfl HAW.out (by omega) (by simp) ?_)
        intro v13 w13 hO13 hG13
        have HB13 := hid (((Below.refl w12.heap.size w12).alloc (Nat.le_refl _) (.cells #[] 38)).grown hG13 (by simp) (fun k hk => by cases hk; exact Nat.le_refl _))
        have HO13 := hid hO13
        have HS13 := hid HB13.out.size
        clear hO13 hG13 d2 HAW
        go_wp2_with (at_builtin; refine wpList_append_own_at _ rfl _ _ 34 rfl w12.heap.size 38 j0 _ 2 32 Try.underlying34 HJ.out.1 HJ.out.2.1 HJ.out.2.2.1 HJ.out.2.2.2 rfl (by decide) v13 i (atC t.attrs) rfl (HO13.out.alloc _) ⟨w13.heap.size, 0, none⟩ 1 1 [.string (nmP p), .string freshS] rfl rfl (two_cell _ _ _ _) (two_str _ _) (by unfold maxLen; omega) (by omega) (by have := HS13.out; simp; omega) ?_)
        intro v14 w14 hO14 hG14 _ _
        have HB14 := hid ((HB13.out.alloc HS13.out (.cells #[.string (nmP p), .string freshS] 38)).grown hG14 (by have := HS13.out; simp; omega) (fun k hk => (HO13.out.lt k hk).1))
        obtain ⟨g9, c9, rfl, hg9, hg9b⟩ := own_some hO14 (by omega)
        have hlen : (t.attrs ++ [(⟨nmP p, freshS⟩ : At)]).length = i + 1 := by rw [List.length_append, HNA.out]; rfl
        have hatc : atC (t.attrs ++ [(⟨nmP p, freshS⟩ : At)]) = atC t.attrs ++ [.string (nmP p), .string freshS] := by unfold atC; rw [List.flatMap_append]; rfl
        have HO14 := hid (show w14.ownsRow w12.heap.size 38 2 (.slice (some ⟨g9, 0, none⟩) (t.attrs ++ [(⟨nmP p, freshS⟩ : At)]).length c9) (t.attrs ++ [(⟨nmP p, freshS⟩ : At)]).length (atC (t.attrs ++ [(⟨nmP p, freshS⟩ : At)])) by rw [hlen, hatc]; exact hO14)
        have HON := hid (ownsRow_below HO12.out HB14.out)
        have hkes : k < es.length := by rw [HES.out.2.2]; omega
        have d3 : w14.cell? ⟨gm, k * 4 + 2, none⟩ = some (.slice es[k].a es[k].t.attrs.length es[k].cap) := by
          rw [World.ownsRow.cellAt HON.out (k * 4 + 2) (by omega)]
          exact (Nd.cs_get es k hkes).2.2.1
        have f3 := World.ownsRow.frozenAt HON.out (k * 4 + 2)
        obtain ⟨x9, hx9⟩ : ∃ x9, Value.slice es[k].a es[k].t.attrs.length es[k].cap = x9 := ⟨_, rfl⟩
        rw [hx9] at d3
        have HB15 := hid ((HB12.out.trans (HB14.out.mono HB12.out.size)).setCell (p := ⟨gm, k * 4 + 2, none⟩) HG12.out.1 (.slice (some ⟨g9, 0, none⟩) (t.attrs ++ [(⟨nmP p, freshS⟩ : At)]).length c9))
        have HTK := hid (tk_more (x := ⟨nmP p, freshS⟩) HES.out.1 HN.out HTT.out HON.out (fun e he => (HATS.out e he).below HB15.out) (at_own (HO14.out.kept (World.ownsRow.stored HON.out (k * 4 + 2) _).2 (.inr (by
          have := HG12.out.2
          simp [Value.ownBlock]
          omega)))))
        rw [hlen] at HTK HB15
        have HFA := hid (find_all HP.out HAO.out HNO.out)
        have HTR := hid (more_tree HT.out HTT.out HNE.out (by rw [HNA.out]; omega) (fresh_ok HP.out) HFA.out)
        have HME := hid (show meanI (moreT ts k t ⟨nmP p, freshS⟩) (k : Int) p = some freshS by
          rw [meanI_el (elemB_of HTR.out (more_el HTT.out ⟨HKL.out, by
            have h := HTT.out
            rw [List.getElem?_eq_getElem HKL.out] at h
            rw [Option.some.inj h]
            exact HNE.out⟩))]
          exact more_mean HT.out HTT.out HP.out HNO.out HSM.out)
        have HLM := hid (show (moreT ts k t ⟨nmP p, freshS⟩).length = n by rw [more_len]; exact HN.out)
        have CM := hid (cMeaningI (some ⟨gm, 0, none⟩) cm (moreT ts k t ⟨nmP p, freshS⟩) (k : Int) p _ HTK.out (by rw [HLM.out]; omega) (more_sz HZ.out HTT.out (by rw [HNA.out]; omega) (by have := nmP_sz HP.out; show (nmP p).size ≤ _; omega) (show freshS.size ≤ 1048576 by decide)) (by omega))
        rw [HME.out, HLM.out] at CM
        simp only [Option.getD_some, Option.isSome_some] at CM
        have hff : (freshS.toList == [102, 114, 101, 115, 104]) = true := by rw [ByteArray.toList_eq]; rfl
        clear hlen hatc hO14 hG14 hx9 hg9 hg9b
        go_wp2_with fail
        refine CM.out.mono ?_
        rintro e w16 ⟨rfl, hb16⟩
        have HB16 := hid (bb (bb HBW.out HB15.out) hb16)
        clear hb16 CM d3 f3
        go_wp2_with fail
        go_ret
        exact ⟨rfl, HB16.out⟩

end Go.Proofs.Ytlghhemmmjahnaa
