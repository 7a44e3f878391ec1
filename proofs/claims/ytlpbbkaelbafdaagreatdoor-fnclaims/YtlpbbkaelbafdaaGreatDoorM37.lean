/-  -/
import Derived.Test.YtlpbbkaelbafdaaGreatDoorM31
import Derived.Test.YtlpbbkaelbafdaaGreatDoorM33
import Derived.Test.YtlpbbkaelbafdaaGreatDoorM28
import Derived.Test.YtlpbbkaelbafdaaGreatDoorM10
import Derived.Deep.CutRange
import Derived.Deep.QuietTactic
import Derived.BigQuiet
import Derived.Deep.RegionHeld3
set_option linter.unusedVariables false
set_option linter.unusedSimpArgs false
namespace Go.Proofs.YtlpbbkaelbafdaaGreatDoor
open Go.RowKit

theorem Bx.drewN {wr W : World} {t : Tk} {nA c1 : Nat} {a1 : Option Addr} (h : Bx wr W t nA a1 c1) (n : Nat) : Bx wr (W.drewN n) t nA a1 c1 := ⟨below_drewN h.bel n, h.box, h.own⟩

theorem RowOf.last {w wr : World} {v : Value} {L : List Tk} (h : RowOf w wr v L) : ∃ a8 c8, v = .slice a8 L.length c8 /\ (0 < L.length -> ∃ t, L[L.length - 1]? = some t) := by
 obtain ⟨a, c, e, _⟩ := h.tk
 exact ⟨a, c, e, fun h0 => ⟨L[L.length - 1], List.getElem?_eq_getElem (by omega)⟩⟩

set_option maxRecDepth 8000 in
set_option maxHeartbeats 16000000 in
theorem cCutL (A : Option Addr) (cap : Nat) (ts : List Tk) (a : Nat) (w : World) (hR : TkRow w A ts) (hT : TreeP ts) (ha : a < ts.length) (ha1 : 1 <= a) (hc : ts.length <= cap) (hcm : cap <= maxLen) (hz : TksSz 1048576 ts) :
  Calls Tryz.prog 77 #[.slice A ts.length cap, .int .i64 (a : Int), .int .i64 (endN ts a : Nat)] w fun e w' => ∃ v, e = .returned v /\ RowOf w w' v (cutL ts a (endN ts a)) := by
 have HR := hid hR
 have HZ := hid hz
 have HT := hid hT
 have HA := hid ha
 have h50 : ts.length <= 50 := hT.2.1
 unfold maxLen at hcm
 have HB0 := hid ((Below.refl w.heap.size w).alloc (Nat.le_refl _) (.cells #[] 42))
 have M0 := hid (heap_alloc_new w (.cells #[] 42))
 have hE := endN_le ha
 obtain ⟨E, hEE⟩ : ∃ E, endN ts a = E := ⟨_, rfl⟩
 have HEE := hid hEE
 rw [hEE] at hE ⊢
 obtain ⟨R, hRR⟩ : ∃ R, cutL ts a E = R := ⟨_, rfl⟩
 have HRR := hid hRR
 rw [hRR]
 obtain ⟨n, hnn⟩ : ∃ n, ts.length = n := ⟨_, rfl⟩
 have HN := hid hnn
 rw [hnn] at ha hE h50 hc ⊢
 obtain ⟨hE1, hE2⟩ := hE
 clear hR hz hT hEE hnn hRR
 go_enter Tryz.func77, Tryz.ntmps77
 go_wp2_with fail
 go_loopw [7, 8] (fun v k wr => ∃ i : Nat, k = .int .i64 (i : Int) /\ i <= n /\ Hid (RowOf w wr v (outC ts a E i)) /\ Hid (E < i -> sideB ts a E = false)) (fun _ k _ => n - (intOf k).toNat)
 case atStart => exact ⟨0, rfl, Nat.zero_le _, by show RowOf _ _ _ _; rw [outC_zero]; exact RowOf.start HB0.out (Nat.le_refl _) M0.out, by show _ -> _; omega⟩
 case round =>
  clear HB0 M0
  obtain ⟨i, rfl, hi, HX, HSD⟩ := hrel
  by_cases hlt : i < n
  ·have hin : (i : Int) < (n : Int) := by omega
   have his : i < ts.length := by rw [HN.out]; exact hlt
   by_cases hmid : a <= i /\ i < E
   ·have g1 : (a : Int) <= (i : Int) := by omega
    have g2 : (i : Int) < (E : Int) := by omega
    have HX2 := hid (show RowOf w wr u7 (outC ts a E (i + 1)) by rw [outC_skip hmid.1 hmid.2]; exact HX.out)
    have HS2 := hid (show E < i + 1 -> sideB ts a E = false from fun h => by omega)
    clear hmid
    go_wp2_with fail
    go_roundw
    case rel => exact ⟨i + 1, by go_num, by omega, HX2.out, HS2.out⟩
    case measure => simp [intOf]; omega
   ·have HMID := hid hmid
    have HLT := hid (show (outC ts a E i).length <= 1048576 by rw [outC_len (by omega) (by rw [HN.out]; exact hE2) (by omega)]; omega)
    have HZT := hid (HZ.out _ (List.getElem_mem his))
    have hkb := tree_kind HT.out (seg_of his)
    have HLK := hid (low_kind HT.out his)
    have HNX := hid (show outC ts a E (i + 1) = outC ts a E i ++ [shK (cutF a E ts[i]) ts[i]] by
     by_cases hia : i < a
     ·rw [outC_low (by omega) hia his]
      have hk := low_kind HT.out his
      rw [parI_at his] at hk
      unfold cutF
      rw [if_neg (by omega)]
      rfl
     ·exact outC_high (by omega) (by omega) his)
    have HNJ := hid (fun (t0 : Tk) (h0 : (outC ts a E i)[(outC ts a E i).length - 1]? = some t0) (hp : 0 < i) (hx : i < a \/ E < i) => no_join (a := a) HT.out HA.out ha1 his hp (by rw [HEE.out]; exact hx) (t := t0) (by rw [HEE.out]; exact h0))
    rw [HEE.out] at HNJ
    have HLS := hid (fun (hp : 0 < i) => outC_last (ts := ts) (a := a) (e := E) (i := i) (by omega) (by rw [HN.out]; exact hE2) ha1 his hp (by omega))
    have HTI := hid (seg_of his)
    rw [parI_at his] at HLK
    obtain ⟨b, o, aa, ca, e', hb, q0, q1, q2, q3, hA⟩ := (HR.out.below HX.out.bel) i his
    subst e'
    have HAT := hid hA
    obtain ⟨t, ht⟩ : ∃ t, ts[i] = t := ⟨_, rfl⟩
    rw [ht] at q0 q1 q2 q3 HAT HZT HNX hkb HLK HNJ HTI
    clear ht hA hmid his
    obtain ⟨nA, hnA⟩ : ∃ nA, t.attrs.length = nA := ⟨_, rfl⟩
    have HNA := hid hnA
    rw [hnA] at q2
    clear hnA
    have HL1 := hid ((Below.refl wr.heap.size wr).alloc (Nat.le_refl _) (.cells #[.int .i64 t.kind, .string t.name, .slice aa nA ca, .string t.text] 42))
    have CC := hid (fun wx (h : AtRow wx aa t.attrs) => cCopyS aa ca t.attrs wx h HZT.out.2.1)
    rw [HNA.out] at CC
    obtain ⟨K, hK⟩ : ∃ K, t.kind = K := ⟨_, rfl⟩
    have HKK := hid hK
    rw [hK] at q0 hkb HL1
    obtain ⟨hk1, hk2⟩ := hkb
    clear hK
    go_upto_region 5 with fail
    go_cut [29] from 22 to 28 (fun v wv => v = .bool false /\ Hid (wr = wv))
    case first =>
     by_cases hia : i < a
     ·have g1 : ¬ (a : Int) <= (i : Int) := by omega
      go_wp2_with fail
      go_meet
      exact ⟨rfl, rfl⟩
     ·have g1 : (a : Int) <= (i : Int) := by omega
      have g2 : ¬ (i : Int) < (E : Int) := by have := HMID.out; omega
      go_wp2_with fail
      go_meet
      exact ⟨rfl, rfl⟩
    obtain ⟨rfl, HWC⟩ := hcut
    have hwc := HWC.out
    subst hwc
    clear HWC
    go_wp2_with fail
    refine (CC.out _ (HAT.out.below HL1.out)).mono ?_
    rintro e w2 ⟨a1, c1, rfl, ha1', hb2⟩
    have HBX := hid (Bx.made (c1 := c1) (t := t) (nA := nA) (aa := aa) (ca := ca) (a1 := a1) (w2 := w2) (by rw [HKK.out]; simpa using hb2) (by simpa using ha1'))
    have M2 := hid (blk_below (heap_alloc_new _ _) hb2)
    obtain ⟨⟨x0, x1, x2, x3⟩, f0, f1, f2, f3⟩ := box4 M2.out
    clear ha1' hb2 CC HL1 q0 q1 q2 q3 hb M2
    obtain ⟨w3, hw3⟩ : ∃ w3, w2.setCell ⟨wr.heap.size, 2, none⟩ (.slice a1 nA c1) = w3 := ⟨_, rfl⟩
    rw [hw3] at HBX
    obtain ⟨⟨y0, y1, y2, y3⟩, g0, g1, g2, g3⟩ := box4 HBX.out.box
    rw [HKK.out] at y0
    obtain ⟨GE, hGE⟩ : ∃ GE : Bool, decide ((E : Int) <= K) = GE := ⟨_, rfl⟩
    go_upto_if 41 with fail
    go_cut [42] from 43 to 48 (fun _ wv => Hid (Bx wr wv (shK (cutF a E t) t) nA a1 c1))
    case first =>
     have HGE := hid hGE
     clear hGE
     cases GE with
     | true =>
      have HBX4 := hid (HBX.out.kind (K - ((E : Int) - (a : Int))))
      have HCF := hid (show cutF a E t = K - ((E : Int) - (a : Int)) by unfold cutF; rw [HKK.out, if_pos (of_decide_eq_true HGE.out)])
      go_wp2_with fail
      go_meet
      rw [HCF.out]
      exact HBX4.out
     | false =>
      have HCF := hid (show cutF a E t = K by unfold cutF; rw [HKK.out, if_neg (of_decide_eq_false HGE.out)])
      have HBX4 := hid (show Bx wr w3 (shK K t) nA a1 c1 by rw [show shK K t = t by rw [<- HKK.out]; rfl]; exact HBX.out)
      go_wp2_with fail
      go_meet
      rw [HCF.out]
      exact HBX4.out
    have HBY := hid hcut.out
    clear hcut HBX x0 x1 x2 x3 y0 y1 y2 y3 g0 g1 g2 g3 f0 f1 f2 f3 hw3 hGE
    obtain ⟨L, hL⟩ : ∃ L, outC ts a E i = L := ⟨_, rfl⟩
    have HL := hid hL
    rw [hL] at HX HLT HNX HNJ HLS
    clear hL
    obtain ⟨a8, c8, hv, htk8⟩ := HX.out.tk
    subst hv
    obtain ⟨m, hm⟩ : ∃ m, L.length = m := ⟨_, rfl⟩
    have HM := hid hm
    rw [hm] at HX HNJ HLS HLT ⊢
    clear hm htk8
    obtain ⟨C, hC⟩ : ∃ C, cutF a E t = C := ⟨_, rfl⟩
    have HC := hid hC
    rw [hC] at HBY HNX HNJ
    clear hC
    obtain ⟨M, hMd⟩ : ∃ M : Bool, M = true ↔ (0 < m /\ ∃ t0, L[m - 1]? = some t0 /\ t.name.size = 0 /\ t0.name.size = 0 /\ t0.kind = C) := by
     by_cases h : (0 < m /\ ∃ t0, L[m - 1]? = some t0 /\ t.name.size = 0 /\ t0.name.size = 0 /\ t0.kind = C)
     ·exact ⟨true, ⟨fun _ => h, fun _ => rfl⟩⟩
     ·exact ⟨false, ⟨fun h' => (by cases h'), fun h' => absurd h' h⟩⟩
    have HMD := hid hMd
    clear hMd
    have E1 := empty_is t.name
    obtain ⟨D1, hD1⟩ : ∃ D1 : Bool, decide (t.name.size = 0) = D1 := ⟨_, rfl⟩
    have HD1 := hid hD1
    rw [hD1] at E1
    clear hD1
    go_upto_region 11 with fail
    go_cut [77] from 51 to 76 (fun v wv => v = .bool M /\ Hid (Bx wr wv (shK C t) nA a1 c1))
    case first =>
     obtain ⟨⟨y0, y1, y2, y3⟩, g0, g1, g2, g3⟩ := box4 HBY.out.box
     have y0' : wc.cell? ⟨wr.heap.size, 0, none⟩ = some (.int .i64 C) := y0
     have y1' : wc.cell? ⟨wr.heap.size, 1, none⟩ = some (.string t.name) := y1
     clear y0 y1 y2 y3 g0 g1 g2 g3
     by_cases hm0 : m = 0
     ·subst hm0
      have HMF := hid (show M = false by
       cases M with
       | false => rfl
       | true => exact absurd (HMD.out.1 rfl).1 (by omega))
      cases D1 with
      | false =>
       go_quiet (fail)
       go_wp2_with fail
       go_meet
       exact ⟨by rw [HMF.out], HBY.out.drewN _⟩
      | true =>
       go_quiet (fail)
       go_wp2_with fail
       go_meet
       exact ⟨by rw [HMF.out], HBY.out.drewN _⟩
     ·obtain ⟨q, rfl⟩ : ∃ q, m = q + 1 := ⟨m - 1, by omega⟩
      clear hm0
      have hql : q < L.length := by rw [HM.out]; exact Nat.lt_succ_self _
      have HXC := hid (HX.out.below HBY.out.bel)
      obtain ⟨t0, ht0⟩ : ∃ t0, L[q]? = some t0 := ⟨L[q], List.getElem?_eq_getElem hql⟩
      obtain ⟨g, c, hv, hg, ⟨ab, cb, d0, d1, d2, d3⟩, hfz, _, _⟩ := HXC.out.put ht0
      obtain ⟨rfl, rfl⟩ : a8 = some ⟨g, 0, none⟩ /\ c8 = c := by injection hv with h1 h2 h3; exact ⟨h1, h3⟩
      have HT0 := hid ht0
      clear hv d2 d3 hfz ht0 hql
      have E2 := empty_is t0.name
      obtain ⟨D2, hD2⟩ : ∃ D2 : Bool, decide (t0.name.size = 0) = D2 := ⟨_, rfl⟩
      have HD2 := hid hD2
      rw [hD2] at E2
      clear hD2
      obtain ⟨D3, hD3⟩ : ∃ D3 : Bool, (t0.kind == C) = D3 := ⟨_, rfl⟩
      have HD3 := hid hD3
      have HMV := hid (show M = (D1 && (D2 && D3)) by
       rw [Bool.eq_iff_iff, HMD.out, <- HD1.out, <- HD2.out, <- HD3.out]
       simp only [Bool.and_eq_true, decide_eq_true_eq, beq_iff_eq]
       constructor
       ·rintro ⟨_, t1, k1, k2, k3, k4⟩
        rw [show q + 1 - 1 = q from rfl, HT0.out] at k1
        cases k1
        exact ⟨k2, k3, k4⟩
       ·rintro ⟨k2, k3, k4⟩
        exact ⟨Nat.succ_pos _, t0, HT0.out, k2, k3, k4⟩)
      obtain ⟨K0, hK0⟩ : ∃ K0, t0.kind = K0 := ⟨_, rfl⟩
      rw [hK0] at d0 hD3
      obtain ⟨N0, hN0⟩ : ∃ N0, t0.name = N0 := ⟨_, rfl⟩
      rw [hN0] at d1 E2
      clear hK0 hN0 HD3 HD2
      have hq1 : (q : Int) < (q : Int) + 1 := by omega
      have hq0 : decide ((0 : Int) < (q : Int) + 1) = true := decide_eq_true (by omega)
      have hq50 : q <= 1048576 := by have := HLT.out; omega
      cases D1 with
      | false =>
       go_quiet (fail)
       go_wp2_with fail
       go_meet
       exact ⟨by rw [HMV.out]; rfl, HBY.out.drewN _⟩
      | true =>
       cases D2 with
       | false =>
        go_quiet (fail)
        go_wp2_with fail
        go_meet
        exact ⟨by rw [HMV.out]; rfl, HBY.out.drewN _⟩
       | true =>
        go_quiet (fail)
        go_wp2_with fail
        go_meet
        exact ⟨by rw [HMV.out]; rfl, HBY.out.drewN _⟩
    obtain ⟨rfl, HBZ⟩ := hcut
    clear HBY
    cases M with
    | false =>
     have HS2 := hid (show E < i + 1 -> sideB ts a E = false from fun h => by
      by_cases hEi : E < i
      ·exact HSD.out hEi
      ·have hie : i = E := by omega
       have hp : 0 < i := by omega
       obtain ⟨t0, k1, _, k3, _⟩ := HLS.out hp
       have hm0 : 0 < m := by
        have h1 := HM.out
        rw [<- HL.out, outC_len (by omega) (by rw [HN.out]; exact hE2) (by rw [HN.out]; omega)] at h1
        omega
       unfold sideB
       rw [k3 hie, <- hie, HTI.out]
       simp only
       cases hsd : (decide (t.name.size = 0) && (decide (t0.name.size = 0) && decide (t0.kind = cutF a i t))) with
       | false => rfl
       | true =>
        simp only [Bool.and_eq_true, decide_eq_true_eq] at hsd
        have := HMD.out.2 ⟨hm0, t0, k1, hsd.1, hsd.2.1, by rw [hsd.2.2, hie]; exact HC.out⟩
        cases this)
     obtain ⟨⟨y0, y1, y2, y3⟩, _⟩ := box4 HBZ.out.box
     go_wp2_with (at_builtin; refine wpL_bx w wr _ rfl _ _ rfl (.slice a8 m c8) L rfl HX.out (shK C t) a1 c1 nA rfl HNA.out HBZ.out (by rw [HM.out]; exact HLT.out) ?_)
     intro v6 w6 hr6
     have HR6 := hid hr6
     rw [<- HNX.out] at HR6
     clear hr6 y0 y1 y2 y3
     go_wp2_with fail
     go_roundw
     case rel => exact ⟨i + 1, by go_num, by omega, HR6.out, HS2.out⟩
     case measure => simp [intOf]; omega
    | true =>
     obtain ⟨hm0, t0, ht0, k1, k2, k3⟩ := HMD.out.1 rfl
     have hp : 0 < i := by
      rcases Nat.eq_zero_or_pos i with h | h
      ·exfalso
       have h1 := HM.out
       rw [<- HL.out, h, outC_zero] at h1
       simp at h1
       omega
      ·exact h
     have hiE : i = E := by
      by_cases hx : i < a \/ E < i
      ·exact absurd ⟨k1, k2, k3⟩ (HNJ.out t0 ht0 hp hx)
      ·have := HMID.out; omega
     obtain ⟨t0', j1, _, j3, _⟩ := HLS.out hp
     have e0 : t0 = t0' := Option.some.inj (ht0.symm.trans j1)
     have HTA := hid (show ts[a - 1]? = some t0 by rw [e0]; exact j3 hiE)
     have HSB := hid (show sideB ts a E = true by
      unfold sideB
      rw [HTA.out, <- hiE, HTI.out]
      simp only [Bool.and_eq_true, decide_eq_true_eq]
      exact ⟨k1, k2, by rw [k3, hiE]; exact HC.out.symm⟩)
     have HRJ := hid (show R = joinC ts a E t0 t by rw [<- HRR.out]; exact cutL_yes HSB.out HTA.out (by rw [<- hiE]; exact HTI.out))
     have HLA := hid (show L = ts.take a by
      rw [<- HL.out, hiE]
      unfold outC
      rw [Nat.min_eq_right (by omega), Nat.sub_self]
      show _ ++ [] = _
      rw [List.append_nil])
     have hma : m = a := by
      have h1 := HM.out
      rw [HLA.out, List.length_take, HN.out] at h1
      omega
     have htx : ¬ 9223372036854775807 < t0.text.size + t.text.size := by
      have h1 := (HZ.out t0 (List.mem_of_getElem? HTA.out)).2.2.2
      have h2 := HZT.out.2.2.2
      omega
     subst hiE
     obtain ⟨q, hq⟩ : ∃ q, m = q + 1 := ⟨m - 1, by omega⟩
     have HQ := hid (show q = a - 1 by omega)
     have HXC := hid (show RowOf w wc.drew (.slice a8 m c8) L from (HX.out.below HBZ.out.bel).below (below_drewN (Below.refl _ _) 1))
     have ht0q : L[q]? = some t0 := by rw [show q = m - 1 by omega]; exact ht0
     obtain ⟨g, c, hv, hg, ⟨ab, cb, d0, d1, d2, d3⟩, hfz, _, hset⟩ := HXC.out.put ht0q
     obtain ⟨rfl, rfl⟩ : a8 = some ⟨g, 0, none⟩ /\ c8 = c := by injection hv with h1 h2 h3; exact ⟨h1, h3⟩
     obtain ⟨⟨y0, y1, y2, y3⟩, _⟩ := box4 HBZ.out.box
     have HSET := hid (hset (t0.text ++ t.text))
     have hq50 : q <= 100 := by omega
     have hq1 : (q : Int) < (q : Int) + 1 := by omega
     have hwq : IntKind.i64.wrap (q : Int) = (q : Int) := IntWalk.i64_in _ (by omega)
     subst hq
     clear hm0 ht0 k1 k2 k3 hp e0 j1 j3 hma ht0q hv hset hg d0 d1 d2 y0 y1 y2
     go_wp2_with fail
     refine wp_region_held_drew (S := fun _ => True) (by kernel_rfl) trivial (fun _ => ?_)
     have D3 := hid (show wc.drew.cell? ⟨g, q * 4 + 3, none⟩ = some (.string t0.text) from d3)
     have Y3 := hid (show wc.drew.cell? ⟨wr.heap.size, 3, none⟩ = some (.string t.text) from y3)
     have F3 := hid (show wc.drew.frozen? ⟨g, q * 4 + 3, none⟩ = false from hfz _)
     have HXD := hid (show RowOf w (wc.drew.setCell ⟨g, q * 4 + 3, none⟩ (.string (t0.text ++ t.text))) (.slice (some ⟨g, 0, none⟩) (q + 1) c8) (L.set q ⟨t0.kind, t0.name, t0.attrs, t0.text ++ t.text⟩) from HSET.out)
     generalize wc.drew = W at *
     refine wpAnyH_take (i := 0) (v := ?_) rfl (by kernel_rfl) (by kernel_rfl) (by kernel_rfl) (fun _ _ _ h => h) (Or.inl ⟨by rfl, ?_⟩) trivial ?_
     rotate_left
     ·intro w hSw
      go_simp
      try (with_reducible rfl)
     try simp only [Act.put, List.setIfInBounds_toArray, List.set_cons_zero, List.set_cons_succ]
     refine wpAnyH_take (i := 1) (v := ?_) rfl (by kernel_rfl) (by kernel_rfl) (by kernel_rfl) (fun _ _ _ h => h) (Or.inl ⟨by rfl, ?_⟩) trivial ?_
     rotate_left
     ·intro w hSw
      go_simp
      try (with_reducible rfl)
     try simp only [Act.put, List.setIfInBounds_toArray, List.set_cons_zero, List.set_cons_succ]
     refine wpAnyH_take (i := 2) (v := ?_) rfl (by kernel_rfl) (by kernel_rfl) (by kernel_rfl) (fun _ _ _ h => h) (Or.inl ⟨by rfl, ?_⟩) trivial ?_
     rotate_left
     ·intro w hSw
      go_simp
      try (with_reducible rfl)
     try simp only [Act.put, List.setIfInBounds_toArray, List.set_cons_zero, List.set_cons_succ]
     refine wpAnyH_take (i := 3) (v := ?_) rfl (by kernel_rfl) (by kernel_rfl) (by kernel_rfl) (fun _ _ _ h => h) (Or.inl ⟨by rfl, ?_⟩) trivial ?_
     rotate_left
     ·intro w hSw
      go_simp
      try (with_reducible rfl)
     try simp only [Act.put, List.setIfInBounds_toArray, List.set_cons_zero, List.set_cons_succ]
     refine wpAnyH_take (i := 4) (v := ?_) rfl (by kernel_rfl) (by kernel_rfl) (by kernel_rfl) (fun _ _ _ h => h) (Or.inl ⟨by rfl, ?_⟩) trivial ?_
     rotate_left
     ·intro w hSw
      go_simp
      try (with_reducible rfl)
     try simp only [Act.put, List.setIfInBounds_toArray, List.set_cons_zero, List.set_cons_succ]
     refine wpAnyH_take (i := 5) (v := ?_) rfl (by kernel_rfl) (by kernel_rfl) (by kernel_rfl) (fun _ _ _ h => h) (Or.inl ⟨by rfl, ?_⟩) trivial ?_
     rotate_left
     ·intro w hSw
      go_simp
      try (with_reducible rfl)
     try simp only [Act.put, List.setIfInBounds_toArray, List.set_cons_zero, List.set_cons_succ]
     refine wpAnyH_take (i := 6) (v := ?_) rfl (by kernel_rfl) (by kernel_rfl) (by kernel_rfl) (fun _ _ _ h => h) (Or.inl ⟨by rfl, ?_⟩) trivial ?_
     rotate_left
     ·intro w hSw
      go_simp
      try (with_reducible rfl)
     try simp only [Act.put, List.setIfInBounds_toArray, List.set_cons_zero, List.set_cons_succ]
     refine wpAnyH_take (i := 7) (v := ?_) rfl (by kernel_rfl) (by kernel_rfl) (by kernel_rfl) (fun _ _ _ h => h) (Or.inl ⟨by rfl, ?_⟩) trivial ?_
     rotate_left
     ·intro w hSw
      go_simp
      try (with_reducible rfl)
     try simp only [Act.put, List.setIfInBounds_toArray, List.set_cons_zero, List.set_cons_succ]
     refine wpAnyH_take (i := 9) (v := ?_) rfl (by kernel_rfl) (by kernel_rfl) (by kernel_rfl) (fun _ _ _ h => h) (Or.inl ⟨by rfl, ?_⟩) trivial ?_
     rotate_left
     ·intro w hSw
      go_simp
      try (with_reducible rfl)
     try simp only [Act.put, List.setIfInBounds_toArray, List.set_cons_zero, List.set_cons_succ]
     refine wpAnyH_ready (rs := [8, 10]) (by kernel_rfl) (by simp) (AllReadyH.cons rfl (fun K hK => ?_) (AllReadyH.cons rfl (fun K hK => ?_) AllReadyH.nil))
     ·have d3 := D3.out
      go_simp
      refine hK.out _ _ trivial (fun _ => ?_)
      clear hK K
      try simp only [Act.put, List.setIfInBounds_toArray, List.set_cons_zero, List.set_cons_succ]
      clear d3
      refine wpAnyH_ready (rs := [10]) (by kernel_rfl) (by simp) (AllReadyH.cons rfl (fun K hK => ?_) AllReadyH.nil)
      ·have y3 := Y3.out
       go_simp
       refine hK.out _ _ trivial (fun _ => ?_)
       clear hK K
       try simp only [Act.put, List.setIfInBounds_toArray, List.set_cons_zero, List.set_cons_succ]
       clear y3
       refine wpAnyH_take (i := 11) (v := ?_) rfl (by kernel_rfl) (by kernel_rfl) (by kernel_rfl) (fun _ _ _ h => h) (Or.inl ⟨by rfl, ?_⟩) trivial ?_
       rotate_left
       ·intro w hSw
        go_simp
        try (with_reducible rfl)
       try simp only [Act.put, List.setIfInBounds_toArray, List.set_cons_zero, List.set_cons_succ]
       refine wpAnyH_take (i := 12) (v := ?_) rfl (by kernel_rfl) (by kernel_rfl) (by kernel_rfl) (fun _ _ _ h => h) (Or.inl ⟨by rfl, ?_⟩) trivial ?_
       rotate_left
       ·intro w hSw
        go_simp
        try (with_reducible rfl)
       try simp only [Act.put, List.setIfInBounds_toArray, List.set_cons_zero, List.set_cons_succ]
       refine wpAnyH_take (i := 13) (v := ?_) rfl (by kernel_rfl) (by kernel_rfl) (by kernel_rfl) (fun _ _ _ h => h) (Or.inl ⟨by rfl, ?_⟩) trivial ?_
       rotate_left
       ·intro w hSw
        go_simp
        try (with_reducible rfl)
       try simp only [Act.put, List.setIfInBounds_toArray, List.set_cons_zero, List.set_cons_succ]
       refine wpAnyH_ready (rs := [14]) (by kernel_rfl) (by simp) (AllReadyH.cons rfl (fun K hK => ?_) AllReadyH.nil)
       ·have d3 := D3.out
        have f3 := F3.out
        go_simp
        refine hK.out _ _ trivial (fun _ => ?_)
        clear hK K
        try simp only [Act.put, List.setIfInBounds_toArray, List.set_cons_zero, List.set_cons_succ]
        clear d3 f3
        refine wpAnyH_done (by kernel_rfl) ?_ _
        have HX5 := HXD
        generalize W.setCell ⟨g, q * 4 + 3, none⟩ (.string (t0.text ++ t.text)) = w5 at *
        have HR5 := hid (HR.out.below HX5.out.bel)
        have hsl : ∀ W, (Instr.slice 28 (.slice (some ⟨b, o, none⟩) n cap) (some (.int .i64 ((i : Int) + 1))) none none).run Tryz.prog W = .ok (.slice (some (if cap = i + 1 then ⟨b, o, none⟩ else ⟨b, o + (i + 1) * 4, none⟩)) (n - (i + 1)) (cap - (i + 1))) W := fun W => by
         have h := sl_from b o n cap (i + 1) (by omega) hc W
         rw [show ((i + 1 : Nat) : Int) = (i : Int) + 1 by omega] at h
         exact h
        have HRD := hid (tk_from (k := i + 1) HR5.out (cap := cap) (by rw [HN.out]; exact hc))
        generalize (if cap = i + 1 then (⟨b, o, none⟩ : Addr) else ⟨b, o + (i + 1) * 4, none⟩) = AD at *
        obtain ⟨d, hd⟩ : ∃ d, n - (i + 1) = d := ⟨_, rfl⟩
        have HD := hid hd
        rw [hd] at hsl
        have hd50 : d <= 50 := by omega
        clear hd HXD D3 Y3 F3
        go_wp2_with (at_builtin; refine wpL_fresh w5 rfl _ _ rfl rfl (some AD) (ts.drop (i + 1)) d (cap - (i + 1)) (by rw [List.length_drop, HN.out]; exact HD.out) rfl HRD.out (by omega) ?_)
        intro a11 c11 w6 ht6 hb6
        have HT6 := hid ht6
        have HX6 := hid (HX5.out.below hb6)
        clear ht6 hb6 HX5 hsl
        have HM6 := hid (RowOf.start ((Below.refl w6.heap.size w6).alloc (Nat.le_refl _) (.cells #[] 42)) (Nat.le_refl _) (heap_alloc_new w6 (.cells #[] 42)))
        go_wp2_with fail
        go_loopw [12, 13] (fun v k wr2 => ∃ j : Nat, k = .int .i64 (j : Int) /\ j <= d /\ Hid (RowOf w6 wr2 v (segN (fun _ r => if (i : Int) < r.kind then r.kind - ((i : Int) - (a : Int)) - 1 else r.kind) ts (i + 1) j))) (fun _ k _ => d - (intOf k).toNat)
        case atStart => exact ⟨0, rfl, Nat.zero_le _, HM6.out⟩
        case round =>
         clear HM6
         obtain ⟨j, rfl, hj, HY⟩ := hrel
         by_cases hjl : j < d
         ·have hjD : j < (ts.drop (i + 1)).length := by rw [List.length_drop, HN.out, HD.out]; exact hjl
          have hij : i + 1 + j < ts.length := by have := HN.out; have := HD.out; omega
          have hjn : (j : Int) < (d : Int) := by omega
          have HTS := hid (segN_next (f := fun _ r => if (i : Int) < r.kind then r.kind - ((i : Int) - (a : Int)) - 1 else r.kind) (ts := ts) (k := i + 1) (m := j) (t := ts[i + 1 + j]) (seg_of hij))
          have HLY := hid (show (segN (fun _ r => if (i : Int) < r.kind then r.kind - ((i : Int) - (a : Int)) - 1 else r.kind) ts (i + 1) j).length <= 1048576 by rw [segN_len j (by omega)]; omega)
          have hrb := tree_kind HT.out (seg_of hij)
          have HZR := hid (HZ.out _ (List.getElem_mem hij))
          obtain ⟨br, orr, ar, cr, er, hbr, p0, p1, p2, p3, hAr⟩ := (HT6.out.below HY.out.bel) j hjD
          subst er
          rw [List.getElem_drop] at p0 p1 p2 p3 hAr
          have HAR := hid hAr
          obtain ⟨r, hr⟩ : ∃ r, ts[i + 1 + j] = r := ⟨_, rfl⟩
          rw [hr] at p0 p1 p2 p3 HAR HZR HTS hrb
          clear hr hAr hjD hij
          obtain ⟨nR, hnR⟩ : ∃ nR, r.attrs.length = nR := ⟨_, rfl⟩
          have HNR := hid hnR
          rw [hnR] at p2
          clear hnR
          have HLR := hid ((Below.refl wr.heap.size wr).alloc (Nat.le_refl _) (.cells #[.int .i64 r.kind, .string r.name, .slice ar nR cr, .string r.text] 42))
          have CR := hid (fun wx (h : AtRow wx ar r.attrs) => cCopyS ar cr r.attrs wx h HZR.out.2.1)
          rw [HNR.out] at CR
          obtain ⟨KR, hKR⟩ : ∃ KR, r.kind = KR := ⟨_, rfl⟩
          have HKR := hid hKR
          rw [hKR] at p0 hrb HLR
          obtain ⟨hr1, hr2⟩ := hrb
          clear hKR
          go_wp2_with fail
          refine (CR.out _ (HAR.out.below HLR.out)).mono ?_
          rintro e w7 ⟨a7, c7, rfl, ha7, hb7⟩
          have HBR := hid (Bx.made (c1 := c7) (t := r) (nA := nR) (aa := ar) (ca := cr) (a1 := a7) (w2 := w7) (by rw [HKR.out]; simpa using hb7) (by simpa using ha7))
          have M7 := hid (blk_below (heap_alloc_new _ _) hb7)
          obtain ⟨⟨x0, x1, x2, x3⟩, f0, f1, f2, f3⟩ := box4 M7.out
          clear ha7 hb7 CR HLR p0 p1 p2 p3 hbr M7
          obtain ⟨w8, hw8⟩ : ∃ w8, w7.setCell ⟨wr.heap.size, 2, none⟩ (.slice a7 nR c7) = w8 := ⟨_, rfl⟩
          rw [hw8] at HBR
          obtain ⟨⟨z0, z1, z2, z3⟩, g0, g1, g2, g3⟩ := box4 HBR.out.box
          rw [HKR.out] at z0
          by_cases hge : (i : Int) < KR
          ·have HBS := hid (HBR.out.kind (KR - ((i : Int) - (a : Int)) - 1))
           obtain ⟨w9, hw9⟩ : ∃ w9, w8.setCell ⟨wr.heap.size, 0, none⟩ (.int .i64 (KR - ((i : Int) - (a : Int)) - 1)) = w9 := ⟨_, rfl⟩
           rw [hw9] at HBS
           obtain ⟨⟨s0, s1, s2, s3⟩, _⟩ := box4 HBS.out.box
           have HFN := hid (show shK (KR - ((i : Int) - (a : Int)) - 1) r = shK (if (i : Int) < r.kind then r.kind - ((i : Int) - (a : Int)) - 1 else r.kind) r by rw [HKR.out, if_pos hge])
           have hgd : decide ((i : Int) < KR) = true := decide_eq_true hge
           go_wp2_with (at_builtin; refine wpL_bx w6 wr w9 rfl _ _ rfl u12 _ rfl HY.out (shK (KR - ((i : Int) - (a : Int)) - 1) r) a7 c7 nR rfl HNR.out HBS.out HLY.out ?_)
           intro v10 w10 hr10
           have HR10 := hid hr10
           rw [HFN.out, <- HTS.out] at HR10
           clear hr10 x0 x1 x2 x3 z0 z1 z2 z3 s0 s1 s2 s3 hw8 hw9
           go_wp2_with fail
           go_roundw
           case rel => exact ⟨j + 1, by go_num, by omega, HR10.out⟩
           case measure => simp [intOf]; omega
          ·have HBS := hid (show Bx wr w8 (shK KR r) nR a7 c7 by rw [show shK KR r = r by rw [<- HKR.out]; rfl]; exact HBR.out)
           have HFN := hid (show shK KR r = shK (if (i : Int) < r.kind then r.kind - ((i : Int) - (a : Int)) - 1 else r.kind) r by rw [HKR.out, if_neg hge])
           have hgd : decide ((i : Int) < KR) = false := decide_eq_false hge
           go_wp2_with (at_builtin; refine wpL_bx w6 wr w8 rfl _ _ rfl u12 _ rfl HY.out (shK KR r) a7 c7 nR rfl HNR.out HBS.out HLY.out ?_)
           intro v10 w10 hr10
           have HR10 := hid hr10
           rw [HFN.out, <- HTS.out] at HR10
           clear hr10 x0 x1 x2 x3 z0 z1 z2 z3 hw8
           go_wp2_with fail
           go_roundw
           case rel => exact ⟨j + 1, by go_num, by omega, HR10.out⟩
           case measure => simp [intOf]; omega
         ·have hjd : j = d := by omega
          have HJN := hid (show R = L.set q ⟨t0.kind, t0.name, t0.attrs, t0.text ++ t.text⟩ ++ segN (fun _ r => if (i : Int) < r.kind then r.kind - ((i : Int) - (a : Int)) - 1 else r.kind) ts (i + 1) j by
           rw [HRJ.out, HLA.out, HQ.out]
           unfold joinC
           rw [HN.out, HD.out, hjd])
          have HLN := hid (show (L.set q ⟨t0.kind, t0.name, t0.attrs, t0.text ++ t.text⟩).length + (segN (fun _ r => if (i : Int) < r.kind then r.kind - ((i : Int) - (a : Int)) - 1 else r.kind) ts (i + 1) j).length <= 2097152 by
           rw [List.length_set, HM.out, segN_len j (by rw [HN.out]; have := HD.out; omega)]
           omega)
          have hjdn : ¬ (j : Int) < (d : Int) := by omega
          clear hjd
          go_wp2_with (at_builtin; refine wpL_two w w6 _ rfl _ _ rfl (.slice (some ⟨g, 0, none⟩) (q + 1) c8) u12 _ _ rfl rfl HX6.out HY.out HLN.out ?_)
          intro v11 w11 hr11
          have HR11 := hid hr11
          rw [<- HJN.out] at HR11
          clear hr11
          go_wp2_with fail
          go_ret
          exact ⟨_, rfl, HR11.out⟩
     ·have y3 := Y3.out
      go_simp
      refine hK.out _ _ trivial (fun _ => ?_)
      clear hK K
      try simp only [Act.put, List.setIfInBounds_toArray, List.set_cons_zero, List.set_cons_succ]
      clear y3
      refine wpAnyH_ready (rs := [8]) (by kernel_rfl) (by simp) (AllReadyH.cons rfl (fun K hK => ?_) AllReadyH.nil)
      ·have d3 := D3.out
       go_simp
       refine hK.out _ _ trivial (fun _ => ?_)
       clear hK K
       try simp only [Act.put, List.setIfInBounds_toArray, List.set_cons_zero, List.set_cons_succ]
       clear d3
       refine wpAnyH_take (i := 11) (v := ?_) rfl (by kernel_rfl) (by kernel_rfl) (by kernel_rfl) (fun _ _ _ h => h) (Or.inl ⟨by rfl, ?_⟩) trivial ?_
       rotate_left
       ·intro w hSw
        go_simp
        try (with_reducible rfl)
       try simp only [Act.put, List.setIfInBounds_toArray, List.set_cons_zero, List.set_cons_succ]
       refine wpAnyH_take (i := 12) (v := ?_) rfl (by kernel_rfl) (by kernel_rfl) (by kernel_rfl) (fun _ _ _ h => h) (Or.inl ⟨by rfl, ?_⟩) trivial ?_
       rotate_left
       ·intro w hSw
        go_simp
        try (with_reducible rfl)
       try simp only [Act.put, List.setIfInBounds_toArray, List.set_cons_zero, List.set_cons_succ]
       refine wpAnyH_take (i := 13) (v := ?_) rfl (by kernel_rfl) (by kernel_rfl) (by kernel_rfl) (fun _ _ _ h => h) (Or.inl ⟨by rfl, ?_⟩) trivial ?_
       rotate_left
       ·intro w hSw
        go_simp
        try (with_reducible rfl)
       try simp only [Act.put, List.setIfInBounds_toArray, List.set_cons_zero, List.set_cons_succ]
       refine wpAnyH_ready (rs := [14]) (by kernel_rfl) (by simp) (AllReadyH.cons rfl (fun K hK => ?_) AllReadyH.nil)
       ·have d3 := D3.out
        have f3 := F3.out
        go_simp
        refine hK.out _ _ trivial (fun _ => ?_)
        clear hK K
        try simp only [Act.put, List.setIfInBounds_toArray, List.set_cons_zero, List.set_cons_succ]
        clear d3 f3
        refine wpAnyH_done (by kernel_rfl) ?_ _
        have HX5 := HXD
        generalize W.setCell ⟨g, q * 4 + 3, none⟩ (.string (t0.text ++ t.text)) = w5 at *
        have HR5 := hid (HR.out.below HX5.out.bel)
        have hsl : ∀ W, (Instr.slice 28 (.slice (some ⟨b, o, none⟩) n cap) (some (.int .i64 ((i : Int) + 1))) none none).run Tryz.prog W = .ok (.slice (some (if cap = i + 1 then ⟨b, o, none⟩ else ⟨b, o + (i + 1) * 4, none⟩)) (n - (i + 1)) (cap - (i + 1))) W := fun W => by
         have h := sl_from b o n cap (i + 1) (by omega) hc W
         rw [show ((i + 1 : Nat) : Int) = (i : Int) + 1 by omega] at h
         exact h
        have HRD := hid (tk_from (k := i + 1) HR5.out (cap := cap) (by rw [HN.out]; exact hc))
        generalize (if cap = i + 1 then (⟨b, o, none⟩ : Addr) else ⟨b, o + (i + 1) * 4, none⟩) = AD at *
        obtain ⟨d, hd⟩ : ∃ d, n - (i + 1) = d := ⟨_, rfl⟩
        have HD := hid hd
        rw [hd] at hsl
        have hd50 : d <= 50 := by omega
        clear hd HXD D3 Y3 F3
        go_wp2_with (at_builtin; refine wpL_fresh w5 rfl _ _ rfl rfl (some AD) (ts.drop (i + 1)) d (cap - (i + 1)) (by rw [List.length_drop, HN.out]; exact HD.out) rfl HRD.out (by omega) ?_)
        intro a11 c11 w6 ht6 hb6
        have HT6 := hid ht6
        have HX6 := hid (HX5.out.below hb6)
        clear ht6 hb6 HX5 hsl
        have HM6 := hid (RowOf.start ((Below.refl w6.heap.size w6).alloc (Nat.le_refl _) (.cells #[] 42)) (Nat.le_refl _) (heap_alloc_new w6 (.cells #[] 42)))
        go_wp2_with fail
        go_loopw [12, 13] (fun v k wr2 => ∃ j : Nat, k = .int .i64 (j : Int) /\ j <= d /\ Hid (RowOf w6 wr2 v (segN (fun _ r => if (i : Int) < r.kind then r.kind - ((i : Int) - (a : Int)) - 1 else r.kind) ts (i + 1) j))) (fun _ k _ => d - (intOf k).toNat)
        case atStart => exact ⟨0, rfl, Nat.zero_le _, HM6.out⟩
        case round =>
         clear HM6
         obtain ⟨j, rfl, hj, HY⟩ := hrel
         by_cases hjl : j < d
         ·have hjD : j < (ts.drop (i + 1)).length := by rw [List.length_drop, HN.out, HD.out]; exact hjl
          have hij : i + 1 + j < ts.length := by have := HN.out; have := HD.out; omega
          have hjn : (j : Int) < (d : Int) := by omega
          have HTS := hid (segN_next (f := fun _ r => if (i : Int) < r.kind then r.kind - ((i : Int) - (a : Int)) - 1 else r.kind) (ts := ts) (k := i + 1) (m := j) (t := ts[i + 1 + j]) (seg_of hij))
          have HLY := hid (show (segN (fun _ r => if (i : Int) < r.kind then r.kind - ((i : Int) - (a : Int)) - 1 else r.kind) ts (i + 1) j).length <= 1048576 by rw [segN_len j (by omega)]; omega)
          have hrb := tree_kind HT.out (seg_of hij)
          have HZR := hid (HZ.out _ (List.getElem_mem hij))
          obtain ⟨br, orr, ar, cr, er, hbr, p0, p1, p2, p3, hAr⟩ := (HT6.out.below HY.out.bel) j hjD
          subst er
          rw [List.getElem_drop] at p0 p1 p2 p3 hAr
          have HAR := hid hAr
          obtain ⟨r, hr⟩ : ∃ r, ts[i + 1 + j] = r := ⟨_, rfl⟩
          rw [hr] at p0 p1 p2 p3 HAR HZR HTS hrb
          clear hr hAr hjD hij
          obtain ⟨nR, hnR⟩ : ∃ nR, r.attrs.length = nR := ⟨_, rfl⟩
          have HNR := hid hnR
          rw [hnR] at p2
          clear hnR
          have HLR := hid ((Below.refl wr.heap.size wr).alloc (Nat.le_refl _) (.cells #[.int .i64 r.kind, .string r.name, .slice ar nR cr, .string r.text] 42))
          have CR := hid (fun wx (h : AtRow wx ar r.attrs) => cCopyS ar cr r.attrs wx h HZR.out.2.1)
          rw [HNR.out] at CR
          obtain ⟨KR, hKR⟩ : ∃ KR, r.kind = KR := ⟨_, rfl⟩
          have HKR := hid hKR
          rw [hKR] at p0 hrb HLR
          obtain ⟨hr1, hr2⟩ := hrb
          clear hKR
          go_wp2_with fail
          refine (CR.out _ (HAR.out.below HLR.out)).mono ?_
          rintro e w7 ⟨a7, c7, rfl, ha7, hb7⟩
          have HBR := hid (Bx.made (c1 := c7) (t := r) (nA := nR) (aa := ar) (ca := cr) (a1 := a7) (w2 := w7) (by rw [HKR.out]; simpa using hb7) (by simpa using ha7))
          have M7 := hid (blk_below (heap_alloc_new _ _) hb7)
          obtain ⟨⟨x0, x1, x2, x3⟩, f0, f1, f2, f3⟩ := box4 M7.out
          clear ha7 hb7 CR HLR p0 p1 p2 p3 hbr M7
          obtain ⟨w8, hw8⟩ : ∃ w8, w7.setCell ⟨wr.heap.size, 2, none⟩ (.slice a7 nR c7) = w8 := ⟨_, rfl⟩
          rw [hw8] at HBR
          obtain ⟨⟨z0, z1, z2, z3⟩, g0, g1, g2, g3⟩ := box4 HBR.out.box
          rw [HKR.out] at z0
          by_cases hge : (i : Int) < KR
          ·have HBS := hid (HBR.out.kind (KR - ((i : Int) - (a : Int)) - 1))
           obtain ⟨w9, hw9⟩ : ∃ w9, w8.setCell ⟨wr.heap.size, 0, none⟩ (.int .i64 (KR - ((i : Int) - (a : Int)) - 1)) = w9 := ⟨_, rfl⟩
           rw [hw9] at HBS
           obtain ⟨⟨s0, s1, s2, s3⟩, _⟩ := box4 HBS.out.box
           have HFN := hid (show shK (KR - ((i : Int) - (a : Int)) - 1) r = shK (if (i : Int) < r.kind then r.kind - ((i : Int) - (a : Int)) - 1 else r.kind) r by rw [HKR.out, if_pos hge])
           have hgd : decide ((i : Int) < KR) = true := decide_eq_true hge
           go_wp2_with (at_builtin; refine wpL_bx w6 wr w9 rfl _ _ rfl u12 _ rfl HY.out (shK (KR - ((i : Int) - (a : Int)) - 1) r) a7 c7 nR rfl HNR.out HBS.out HLY.out ?_)
           intro v10 w10 hr10
           have HR10 := hid hr10
           rw [HFN.out, <- HTS.out] at HR10
           clear hr10 x0 x1 x2 x3 z0 z1 z2 z3 s0 s1 s2 s3 hw8 hw9
           go_wp2_with fail
           go_roundw
           case rel => exact ⟨j + 1, by go_num, by omega, HR10.out⟩
           case measure => simp [intOf]; omega
          ·have HBS := hid (show Bx wr w8 (shK KR r) nR a7 c7 by rw [show shK KR r = r by rw [<- HKR.out]; rfl]; exact HBR.out)
           have HFN := hid (show shK KR r = shK (if (i : Int) < r.kind then r.kind - ((i : Int) - (a : Int)) - 1 else r.kind) r by rw [HKR.out, if_neg hge])
           have hgd : decide ((i : Int) < KR) = false := decide_eq_false hge
           go_wp2_with (at_builtin; refine wpL_bx w6 wr w8 rfl _ _ rfl u12 _ rfl HY.out (shK KR r) a7 c7 nR rfl HNR.out HBS.out HLY.out ?_)
           intro v10 w10 hr10
           have HR10 := hid hr10
           rw [HFN.out, <- HTS.out] at HR10
           clear hr10 x0 x1 x2 x3 z0 z1 z2 z3 hw8
           go_wp2_with fail
           go_roundw
           case rel => exact ⟨j + 1, by go_num, by omega, HR10.out⟩
           case measure => simp [intOf]; omega
         ·have hjd : j = d := by omega
          have HJN := hid (show R = L.set q ⟨t0.kind, t0.name, t0.attrs, t0.text ++ t.text⟩ ++ segN (fun _ r => if (i : Int) < r.kind then r.kind - ((i : Int) - (a : Int)) - 1 else r.kind) ts (i + 1) j by
           rw [HRJ.out, HLA.out, HQ.out]
           unfold joinC
           rw [HN.out, HD.out, hjd])
          have HLN := hid (show (L.set q ⟨t0.kind, t0.name, t0.attrs, t0.text ++ t.text⟩).length + (segN (fun _ r => if (i : Int) < r.kind then r.kind - ((i : Int) - (a : Int)) - 1 else r.kind) ts (i + 1) j).length <= 2097152 by
           rw [List.length_set, HM.out, segN_len j (by rw [HN.out]; have := HD.out; omega)]
           omega)
          have hjdn : ¬ (j : Int) < (d : Int) := by omega
          clear hjd
          go_wp2_with (at_builtin; refine wpL_two w w6 _ rfl _ _ rfl (.slice (some ⟨g, 0, none⟩) (q + 1) c8) u12 _ _ rfl rfl HX6.out HY.out HLN.out ?_)
          intro v11 w11 hr11
          have HR11 := hid hr11
          rw [<- HJN.out] at HR11
          clear hr11
          go_wp2_with fail
          go_ret
          exact ⟨_, rfl, HR11.out⟩
  ·have hie : i = n := by omega
   subst hie
   have HY := hid (show RowOf w wr u7 R by
    rw [<- HRR.out]
    by_cases hEi : E < i
    ·rw [cutL_no (HSD.out hEi), HN.out]
     exact HX.out
    ·have hEn : E = i := by omega
     have hs : sideB ts a E = false := by
      unfold sideB
      rw [show ts[E]? = none from List.getElem?_eq_none (by rw [HN.out]; omega)]
      split
      ·rename_i h; cases h
      ·rfl
     rw [cutL_no hs, HN.out]
     exact HX.out)
   clear HX HSD
   go_wp2_with fail
   go_ret
   exact ⟨_, rfl, HY.out⟩

end Go.Proofs.YtlpbbkaelbafdaaGreatDoor

namespace Go.Proofs.YtlpbbkaelbafdaaGreatDoor
open Go.RowKit

theorem outC_sz {ts : List Tk} {a e i b : Nat} (h : TksSz b ts) : TksSz b (outC ts a e i) := by
 intro t ht
 unfold outC at ht
 rcases List.mem_append.1 ht with h' | h'
 ·exact h t (List.mem_of_mem_take h')
 ·exact segN_sz h _ t h'

theorem text_of {ts : List Tk} (hT : TreeP ts) {k : Nat} {t : Tk} (h : ts[k]? = some t) : t.text.size <= 60 := by
 have := tree_text hT k
 unfold textAt at this
 rw [h] at this
 exact this

theorem cutL_sz {ts : List Tk} {a e : Nat} (hT : TreeP ts) (hz : TksSz 1048576 ts) : TksSz 1048576 (cutL ts a e) := by
 cases hs : sideB ts a e with
 | false => rw [cutL_no hs]; exact outC_sz hz
 | true =>
  have hs' := hs
  unfold sideB at hs'
  split at hs'
  ·rename_i t u ht hu
   rw [cutL_yes hs ht hu]
   intro x hx
   unfold joinC at hx
   rcases List.mem_append.1 hx with h' | h'
   ·rcases List.mem_or_eq_of_mem_set h' with h'' | h''
    ·exact hz x (List.mem_of_mem_take h'')
    ·subst h''
     obtain ⟨z1, z2, z3, z4⟩ := hz t (List.mem_of_getElem? ht)
     refine ⟨z1, z2, z3, ?_⟩
     have k1 := text_of hT ht
     have k2 := text_of hT hu
     show (t.text ++ u.text).size <= _
     rw [ByteArray.size_append]
     omega
   ·exact segN_sz hz _ x h'
  ·cases hs'

theorem cutL_len {ts : List Tk} {a e : Nat} (hae : a <= e) (he : e <= ts.length) : (cutL ts a e).length <= ts.length := by
 cases hs : sideB ts a e with
 | false =>
  rw [cutL_no hs, outC_len hae he (Nat.le_refl _)]
  omega
 | true =>
  have hs' := hs
  unfold sideB at hs'
  split at hs'
  ·rename_i t u ht hu
   rw [cutL_yes hs ht hu]
   unfold joinC
   have hel : e < ts.length := by
    rcases Nat.lt_or_ge e ts.length with h' | h'
    ·exact h'
    ·rw [List.getElem?_eq_none h'] at hu; cases hu
   rw [List.length_append, List.length_set, List.length_take, segN_len _ (by omega)]
   omega
  ·cases hs'

noncomputable def pruneB (ts : List Tk) (x : Int) : Bool := (decide (1 <= x) && decide (x < (ts.length : Int))) && (treeB ts && treeB (cutL ts x.toNat (endN ts x.toNat)))

noncomputable def pruneT (ts : List Tk) (x : Int) : List Tk := if treeB ts then (if pruneB ts x then cutL ts x.toNat (endN ts x.toNat) else ts) else []

set_option maxRecDepth 4000 in
set_option maxHeartbeats 4000000 in
theorem cPrunedS (a : Option Addr) (cap : Nat) (ts : List Tk) (x : Int) (w : World) (hR : TkRow w a ts) (hc : ts.length <= cap) (hcm : cap <= maxLen) (hn : ts.length <= 1048576) (hz : TksSz 1048576 ts) :
  Calls Tryz.prog 29 #[.slice a ts.length cap, .int .i64 x] w (TreeAns w (pruneT ts x) (pruneB ts x)) := by
 have C := hid (cTreeOkS a cap ts w hR hn hz)
 have HR := hid hR
 have CC := hid (fun wx (h : TkRow wx a ts) => cCopyT a cap ts wx h hn hz)
 cases hT : treeB ts with
 | false =>
  have HE := hid (And.intro (show pruneT ts x = [] by unfold pruneT; rw [hT]; rfl) (show pruneB ts x = false by unfold pruneB; rw [hT, Bool.false_and, Bool.and_false]))
  rw [HE.out.1, HE.out.2]
  rw [hT] at C
  clear hT HE hR hz
  generalize ts.length = n at *
  go_enter Tryz.func29, Tryz.ntmps29
  go_wp2_with fail
  refine C.out.mono ?_
  rintro e w1 ⟨rfl, hb1⟩
  have HB1 := hid hb1
  clear hb1 C
  go_wp2_with fail
  go_ret2
  exact TreeAns.none HB1.out
 | true =>
  have HG := hid (show pruneT ts x = if pruneB ts x then cutL ts x.toNat (endN ts x.toNat) else ts by unfold pruneT; rw [hT]; rfl)
  rw [HG.out]
  rw [hT] at C
  by_cases hin : 1 <= x /\ x < (ts.length : Int)
  case neg =>
   have HV := hid (show pruneB ts x = false by
    unfold pruneB
    rw [Bool.and_eq_false_iff]
    left
    rw [Bool.and_eq_false_iff]
    by_cases h : 1 <= x
    ·exact .inr (decide_eq_false (fun h' => hin ⟨h, h'⟩))
    ·exact .inl (decide_eq_false h))
   rw [HV.out]
   show Calls _ _ _ _ (TreeAns w ts false)
   obtain ⟨n, hnn⟩ : ∃ n, ts.length = n := ⟨_, rfl⟩
   rw [hnn] at C CC hin ⊢
   cases h1 : decide (x < 1) with
   | true =>
    clear hT HG HV hR hz hin hnn hc hn
    go_enter Tryz.func29, Tryz.ntmps29
    go_wp2_with fail
    refine C.out.mono ?_
    rintro e w1 ⟨rfl, hb1⟩
    have HB1 := hid hb1
    clear hb1 C
    go_wp2_with fail
    refine (CC.out _ (HR.out.below HB1.out)).mono ?_
    rintro e w3 ⟨v3, rfl, hr3⟩
    have HR3 := hid (RowOf.later HB1.out hr3)
    clear hr3 CC
    go_wp2_with fail
    go_ret2
    exact ⟨_, rfl, HR3.out⟩
   | false =>
    have h2 : decide ((n : Int) <= x) = true := decide_eq_true (by have := of_decide_eq_false h1; omega)
    clear hT HG HV hR hz hin hnn hc hn
    go_enter Tryz.func29, Tryz.ntmps29
    go_wp2_with fail
    refine C.out.mono ?_
    rintro e w1 ⟨rfl, hb1⟩
    have HB1 := hid hb1
    clear hb1 C
    go_wp2_with fail
    refine (CC.out _ (HR.out.below HB1.out)).mono ?_
    rintro e w3 ⟨v3, rfl, hr3⟩
    have HR3 := hid (RowOf.later HB1.out hr3)
    clear hr3 CC
    go_wp2_with fail
    go_ret2
    exact ⟨_, rfl, HR3.out⟩
  obtain ⟨k, rfl⟩ : ∃ k : Nat, x = (k : Int) := ⟨x.toNat, by omega⟩
  have hTP : TreeP ts := by unfold treeB at hT; simpa using hT
  have hk : k < ts.length := by omega
  have hk1 : 1 <= k := by omega
  have HGB := hid (show pruneB ts (k : Int) = treeB (cutL ts k (endN ts k)) by unfold pruneB; rw [hT, decide_eq_true hin.1, decide_eq_true hin.2]; rfl)
  rw [HGB.out]
  show Calls _ _ _ _ (TreeAns w (if treeB (cutL ts k (endN ts k)) then cutL ts k (endN ts k) else ts) _)
  have hle := endN_le hk
  have CL := hid (fun wx (h : TkRow wx a ts) => cEndS a cap ts k wx h hk hn)
  have CP := hid (fun wx (h : TkRow wx a ts) => cCutL a cap ts k wx h hTP hk hk1 hc hcm hz)
  have HPN := hid (show (cutL ts k (endN ts k)).length <= 1048576 from Nat.le_trans (cutL_len (by omega) hle.2) hn)
  have HPZ := hid (cutL_sz (a := k) (e := endN ts k) hTP hz)
  obtain ⟨P, hP⟩ : ∃ P, cutL ts k (endN ts k) = P := ⟨_, rfl⟩
  rw [hP] at CP HPN HPZ ⊢
  have CQ := hid (fun wx aP cP (h : TkRow wx aP P) => cTreeOkS aP cP P wx h HPN.out HPZ.out)
  obtain ⟨B, hBB⟩ : ∃ B, treeB P = B := ⟨_, rfl⟩
  rw [hBB] at CQ ⊢
  have q1 : decide ((k : Int) < 1) = false := decide_eq_false (by omega)
  have q2 : decide ((ts.length : Int) <= (k : Int)) = false := decide_eq_false (by omega)
  have q3 : ¬ (k : Int) < 1 := by omega
  have q4 : ¬ (ts.length : Int) <= (k : Int) := by omega
  clear hT HG HGB hR hz hP hBB hTP hin hc hn
  generalize endN ts k = E at *
  generalize ts.length = n at *
  obtain ⟨R, hRR⟩ : ∃ R, (if B = true then P else ts) = R := ⟨_, rfl⟩
  have HRR := hid hRR
  rw [hRR]
  clear hRR
  go_enter Tryz.func29, Tryz.ntmps29
  go_wp2_with fail
  refine C.out.mono ?_
  rintro e w1 ⟨rfl, hb1⟩
  have HB1 := hid hb1
  clear hb1 C
  go_wp2_with fail
  refine (CL.out _ (HR.out.below HB1.out)).mono ?_
  rintro e w2 ⟨rfl, rfl⟩
  go_wp2_with fail
  refine (CP.out _ (HR.out.below HB1.out)).mono ?_
  rintro e w5 ⟨v5, rfl, hr5⟩
  have HR5 := hid (RowOf.later HB1.out hr5)
  obtain ⟨a5, c5, hv5, ht5⟩ := hr5.tk
  subst hv5
  have HT5 := hid ht5
  clear hr5 CP ht5
  obtain ⟨pn, hpn⟩ : ∃ pn, P.length = pn := ⟨_, rfl⟩
  rw [hpn] at CQ HR5 ⊢
  clear hpn
  go_wp2_with fail
  refine (CQ.out _ _ _ HT5.out).mono ?_
  rintro e w6 ⟨rfl, hb6⟩
  have HB6 := hid (bb HR5.out.bel hb6)
  have HR6 := hid (HR5.out.below hb6)
  clear hb6 CQ
  cases B with
  | false =>
   have HF := hid (show R = ts from HRR.out.symm)
   go_wp2_with fail
   refine (CC.out _ (HR.out.below HB6.out)).mono ?_
   rintro e w7 ⟨v7, rfl, hr7⟩
   have HR7 := hid (RowOf.later HB6.out hr7)
   clear hr7 CC
   go_wp2_with fail
   go_ret2
   exact ⟨_, rfl, by rw [HF.out]; exact HR7.out⟩
  | true =>
   have HF := hid (show R = P from HRR.out.symm)
   go_wp2_with fail
   go_ret2
   exact ⟨_, rfl, by rw [HF.out]; exact HR6.out⟩

end Go.Proofs.YtlpbbkaelbafdaaGreatDoor

namespace Go.Proofs.YtlpbbkaelbafdaaGreatDoor
open Go.RowKit

section
variable {ts br : List Tk} {e : Nat} {par : Int}

def inF (e : Nat) (par : Int) (i : Nat) (t : Tk) : Int := if i = 0 then par else t.kind + (e : Int)

def outF (e m : Nat) (t : Tk) : Int := if (e : Int) <= t.kind then t.kind + (m : Int) else t.kind

theorem put_low (he : e <= ts.length) {i : Nat} (hi : i < e) {t : Tk} (ht : ts[i]? = some t) : (putL ts e par br)[i]? = some t := by
 unfold putL
 have h1 : (segN (fun _ t => t.kind) ts 0 e).length = e := segN_len _ (by omega)
 rw [List.append_assoc, List.getElem?_append_left (by rw [h1]; exact hi), segN_get _ (by omega) i hi t (by rw [Nat.zero_add]; exact ht)]
 rfl

theorem put_mid (he : e <= ts.length) {i : Nat} (hi : i < br.length) {t : Tk} (ht : br[i]? = some t) : (putL ts e par br)[e + i]? = some (shK (inF e par i t) t) := by
 unfold putL
 have h1 : (segN (fun _ t => t.kind) ts 0 e).length = e := segN_len _ (by omega)
 have h2 : (segN (fun i t => if i = 0 then par else t.kind + (e : Int)) br 0 br.length).length = br.length := segN_len _ (by omega)
 rw [List.getElem?_append_left (by rw [List.length_append, h1, h2]; omega), List.getElem?_append_right (by rw [h1]; omega), h1, show e + i - e = i by omega, segN_get _ (by omega) i hi t (by rw [Nat.zero_add]; exact ht), Nat.zero_add]
 rfl

theorem put_high (he : e <= ts.length) {i : Nat} (hi : e <= i) (hn : i < ts.length) {t : Tk} (ht : ts[i]? = some t) : (putL ts e par br)[i + br.length]? = some (shK (outF e br.length t) t) := by
 unfold putL
 have h1 : (segN (fun _ t => t.kind) ts 0 e).length = e := segN_len _ (by omega)
 have h2 : (segN (fun i t => if i = 0 then par else t.kind + (e : Int)) br 0 br.length).length = br.length := segN_len _ (by omega)
 rw [List.getElem?_append_right (by rw [List.length_append, h1, h2]; omega), List.length_append, h1, h2, show i + br.length - (e + br.length) = i - e by omega, segN_get _ (by omega) (i - e) (by omega) t (by rw [show e + (i - e) = i by omega]; exact ht)]
 rfl

theorem put_end (he : e <= ts.length) (hB : TreeP br) (hn : ∀ t, ts[e]? = some t -> t.kind < (e : Int)) : endN (putL ts e par br) e = e + br.length := by
 have hl : (putL ts e par br).length = ts.length + br.length := putL_len he
 have hb1 := hB.1
 refine endN_is (by omega) (by omega) (fun j h1 h2 => ?_) ?_
 ·obtain ⟨i, rfl⟩ : ∃ i, j = e + i := ⟨j - e, by omega⟩
  have hi : i < br.length := by omega
  have ht := List.getElem?_eq_getElem hi
  unfold parI
  rw [put_mid he hi ht]
  show (e : Int) <= inF e par i br[i]
  unfold inF
  rw [if_neg (by omega)]
  rcases (hB.2.2.2.2 i hi).2.1 with h0 | ⟨p, _, hp, _⟩
  ·omega
  ·rw [parI_at hi] at hp
   omega
 ·by_cases h : e = ts.length
  ·left; omega
  ·right
   have ht := List.getElem?_eq_getElem (show e < ts.length by omega)
   unfold parI
   rw [put_high he (Nat.le_refl _) (by omega) ht]
   have := hn _ ht
   show outF e br.length ts[e] < (e : Int)
   unfold outF
   rw [if_neg (by omega)]
   exact this

theorem put_branch (he : e <= ts.length) (hB : TreeP br) (hn : ∀ t, ts[e]? = some t -> t.kind < (e : Int)) : branchL (putL ts e par br) e = br := by
 have hl : (putL ts e par br).length = ts.length + br.length := putL_len he
 have hb1 := hB.1
 have hek : e < (putL ts e par br).length := by omega
 have hend := put_end (par := par) he hB hn
 have hlen := branchL_len hek
 rw [hend] at hlen
 apply List.ext_getElem?
 intro j
 by_cases hj : j < br.length
 ·have ht := List.getElem?_eq_getElem hj
  rw [branch_at hek (j := j) (by rw [hend]; omega) (put_mid he hj ht), ht]
  congr 1
  unfold shK inF
  by_cases h0 : j = 0
  ·subst h0
   rw [if_pos rfl]
   have := hB.2.2.1
   rw [parI_at hj] at this
   rw [<- this]
  ·rw [if_neg h0, if_neg h0]
   have e1 : br[j].kind + (e : Int) - (e : Int) = br[j].kind := by omega
   show (⟨br[j].kind + (e : Int) - (e : Int), br[j].name, br[j].attrs, br[j].text⟩ : Tk) = br[j]
   rw [e1]
 ·rw [List.getElem?_eq_none (by omega), List.getElem?_eq_none (by omega)]

end

end Go.Proofs.YtlpbbkaelbafdaaGreatDoor

namespace Go.Proofs.YtlpbbkaelbafdaaGreatDoor
open Go.RowKit

def wrapN (name : ByteArray) : Tk := ⟨0, name, [], ⟨#[]⟩⟩

def wrapL (ts : List Tk) (k : Nat) (name : ByteArray) : List Tk := match ts[k]? with
 | some t => (putL ts k t.kind [wrapN name]).set (k + 1) (shK (k : Int) t)
 | none => ts

noncomputable def wrapB (ts : List Tk) (x : Int) (name : ByteArray) : Bool := decide (1 <= x) && (elemB ts x && (nameL name.data.toList && treeB (wrapL ts x.toNat name)))

noncomputable def wrapT (ts : List Tk) (x : Int) (name : ByteArray) : List Tk := if treeB ts then (if wrapB ts x name then wrapL ts x.toNat name else ts) else []

theorem wrapL_len {ts : List Tk} {k : Nat} {name : ByteArray} (hk : k < ts.length) : (wrapL ts k name).length = ts.length + 1 := by
 unfold wrapL
 rw [List.getElem?_eq_getElem hk]
 simp only
 rw [List.length_set, putL_len (by omega)]
 rfl

theorem wrapL_sz {ts : List Tk} {k : Nat} {name : ByteArray} (hk : k < ts.length) (hz : TksSz 1048576 ts) (hn : name.size <= 1048576) : TksSz 1048576 (wrapL ts k name) := by
 unfold wrapL
 rw [List.getElem?_eq_getElem hk]
 simp only
 intro t ht
 rcases List.mem_or_eq_of_mem_set ht with h' | h'
 ·refine put_sz hz (fun u hu => ?_) t h'
  rw [List.mem_singleton] at hu
  subst hu
  exact ⟨hn, Nat.zero_le _, fun y hy => absurd hy List.not_mem_nil, Nat.zero_le _⟩
 ·subst h'
  exact hz ts[k] (List.getElem_mem hk)

theorem wrap_row {w : World} {g : Nat} {name : ByteArray} (h : w.heap[g]? = some (.cells #[.int .i64 0, .string name, .slice none 0 0, .string ⟨#[]⟩] 42 (0, 0))) : TkRow w (some ⟨g, 0, none⟩) [wrapN name] := by
 intro j hj
 have hj0 : j = 0 := by simpa using hj
 subst hj0
 obtain ⟨⟨x0, x1, x2, x3⟩, _⟩ := box4 h
 exact ⟨g, 0, none, 0, rfl, lt_of_heap h, x0, x1, x2, x3, fun i hi => absurd hi (Nat.not_lt_zero _)⟩

set_option maxRecDepth 4000 in
set_option maxHeartbeats 4000000 in
theorem cWrappedS (a : Option Addr) (cap : Nat) (ts : List Tk) (x : Int) (name : ByteArray) (w : World) (hR : TkRow w a ts) (hc : ts.length <= cap) (hcm : cap <= maxLen) (hn : ts.length <= 1048576) (hz : TksSz 1048576 ts) (hnm : name.size <= 1048576) :
  Calls Tryz.prog 31 #[.slice a ts.length cap, .int .i64 x, .string name] w (TreeAns w (wrapT ts x name) (wrapB ts x name)) := by
 have C := hid (cTreeOkS a cap ts w hR hn hz)
 have HR := hid hR
 have CC := hid (fun wx (h : TkRow wx a ts) => cCopyT a cap ts wx h hn hz)
 cases hT : treeB ts with
 | false =>
  have HE := hid (And.intro (show wrapT ts x name = [] by unfold wrapT; rw [hT]; rfl) (show wrapB ts x name = false by unfold wrapB; rw [elemB_tree hT, Bool.false_and, Bool.and_false]))
  rw [HE.out.1, HE.out.2]
  rw [hT] at C
  clear hT HE hR hz
  generalize ts.length = n at *
  go_enter Tryz.func31, Tryz.ntmps31
  go_wp2_with fail
  refine C.out.mono ?_
  rintro e w1 ⟨rfl, hb1⟩
  have HB1 := hid hb1
  clear hb1 C
  go_wp2_with fail
  go_ret2
  exact TreeAns.none HB1.out
 | true =>
  have CE := hid (fun wx (h : TkRow wx a ts) => c_spec_l9Element a cap ts x wx h hn hz)
  have CN := hid (fun wx => c_spec_NameOk name wx hnm)
  have HG := hid (show wrapT ts x name = if wrapB ts x name then wrapL ts x.toNat name else ts by unfold wrapT; rw [hT]; rfl)
  rw [HG.out]
  rw [hT] at C
  cases h1 : decide (1 <= x) with
  | false =>
   have HV := hid (show wrapB ts x name = false by unfold wrapB; rw [h1]; rfl)
   rw [HV.out]
   show Calls _ _ _ _ (TreeAns w ts false)
   have hx1 : decide (x < 1) = true := decide_eq_true (by have := of_decide_eq_false h1; omega)
   clear hT HG HV hR hz CN CE h1
   generalize ts.length = n at *
   go_enter Tryz.func31, Tryz.ntmps31
   go_wp2_with fail
   refine C.out.mono ?_
   rintro e w1 ⟨rfl, hb1⟩
   have HB1 := hid hb1
   clear hb1 C
   go_wp2_with fail
   refine (CC.out _ (HR.out.below HB1.out)).mono ?_
   rintro e w3 ⟨v3, rfl, hr3⟩
   have HR3 := hid (RowOf.later HB1.out hr3)
   clear hr3 CC
   go_wp2_with fail
   go_ret2
   exact ⟨_, rfl, HR3.out⟩
  | true =>
   have hx1 : decide (x < 1) = false := decide_eq_false (by have := of_decide_eq_true h1; omega)
   cases hE : elemB ts x with
   | false =>
    have HV := hid (show wrapB ts x name = false by unfold wrapB; rw [hE, Bool.false_and, Bool.and_false])
    rw [HV.out]
    rw [hE] at CE
    show Calls _ _ _ _ (TreeAns w ts false)
    clear hT HG HV hR hz CN h1 hE
    generalize ts.length = n at *
    go_enter Tryz.func31, Tryz.ntmps31
    go_wp2_with fail
    refine C.out.mono ?_
    rintro e w1 ⟨rfl, hb1⟩
    have HB1 := hid hb1
    clear hb1 C
    go_wp2_with fail
    refine (CE.out _ (HR.out.below HB1.out)).mono ?_
    rintro e w2 ⟨rfl, hb2⟩
    have HB2 := hid (bb HB1.out hb2)
    clear hb2 CE
    go_wp2_with fail
    refine (CC.out _ (HR.out.below HB2.out)).mono ?_
    rintro e w3 ⟨v3, rfl, hr3⟩
    have HR3 := hid (RowOf.later HB2.out hr3)
    clear hr3 CC
    go_wp2_with fail
    go_ret2
    exact ⟨_, rfl, HR3.out⟩
   | true =>
    rw [hE] at CE
    cases hB : nameL name.data.toList with
    | false =>
     have HV := hid (show wrapB ts x name = false by unfold wrapB; rw [hB, Bool.false_and, Bool.and_false, Bool.and_false])
     rw [HV.out]
     rw [hB] at CN
     show Calls _ _ _ _ (TreeAns w ts false)
     clear hT HG HV hR hz h1 hE hB
     generalize ts.length = n at *
     go_enter Tryz.func31, Tryz.ntmps31
     go_wp2_with fail
     refine C.out.mono ?_
     rintro e w1 ⟨rfl, hb1⟩
     have HB1 := hid hb1
     clear hb1 C
     go_wp2_with fail
     refine (CE.out _ (HR.out.below HB1.out)).mono ?_
     rintro e w2 ⟨rfl, hb2⟩
     have HB2 := hid (bb HB1.out hb2)
     clear hb2 CE
     go_wp2_with fail
     refine (CN.out _).mono ?_
     rintro e w3 ⟨rfl, hb3⟩
     have HB3 := hid (bb HB2.out hb3)
     clear hb3 CN
     go_wp2_with fail
     refine (CC.out _ (HR.out.below HB3.out)).mono ?_
     rintro e w4 ⟨v4, rfl, hr4⟩
     have HR4 := hid (RowOf.later HB3.out hr4)
     clear hr4 CC
     go_wp2_with fail
     go_ret2
     exact ⟨_, rfl, HR4.out⟩
    | true =>
     rw [hB] at CN
     obtain ⟨hTP, k, rfl, hk⟩ := elemB_t hE
     have hk1 : 1 <= k := by have := of_decide_eq_true h1; omega
     have htk := seg_of hk
     have hkb := tree_kind hTP htk
     have CP := hid (fun wx g (h : TkRow wx a ts) (h2 : TkRow wx (some ⟨g, 0, none⟩) [wrapN name]) => cPutL a (some ⟨g, 0, none⟩) cap 1 ts [wrapN name] k ts[k].kind wx h h2 (tree_kindB hTP) (fun u hu => by rw [List.mem_singleton] at hu; subst hu; exact ⟨(by show (-1 : Int) <= 0; decide), (by show (0 : Int) < 50; decide)⟩) (by omega) hc hcm hTP.2.1 (by simp) hz (fun u hu => by rw [List.mem_singleton] at hu; subst hu; exact ⟨hnm, Nat.zero_le _, fun y hy => absurd hy List.not_mem_nil, Nat.zero_le _⟩))
     have HPK := hid (put_high (ts := ts) (br := [wrapN name]) (e := k) (par := ts[k].kind) (by omega) (Nat.le_refl _) hk htk)
     have HPN := hid (putL_len (ts := ts) (place := k) (parent := ts[k].kind) (br := [wrapN name]) (by omega))
     have HWL := hid (show wrapL ts k name = (putL ts k ts[k].kind [wrapN name]).set (k + 1) (shK (k : Int) ts[k]) by unfold wrapL; rw [htk])
     have HGB := hid (show wrapB ts (k : Int) name = treeB (wrapL ts k name) by unfold wrapB; rw [h1, hE, hB]; rfl)
     have HWN := hid (show (wrapL ts k name).length <= 1048576 by rw [wrapL_len hk]; have := hTP.2.1; omega)
     have HWZ := hid (wrapL_sz hk hz hnm)
     rw [HGB.out]
     show Calls _ _ _ _ (TreeAns w (if treeB (wrapL ts k name) then wrapL ts k name else ts) _)
     obtain ⟨P, hP⟩ : ∃ P, wrapL ts k name = P := ⟨_, rfl⟩
     rw [hP] at HWN HWZ HWL ⊢
     have CQ := hid (fun wx aP cP (h : TkRow wx aP P) => cTreeOkS aP cP P wx h HWN.out HWZ.out)
     obtain ⟨B, hBB⟩ : ∃ B, treeB P = B := ⟨_, rfl⟩
     rw [hBB] at CQ ⊢
     have HROW := hid (fun wx (hb : Below w.heap.size w wx) => (HR.out.below hb).kindAt k hk)
     obtain ⟨b, o, ea, -⟩ := HR.out.kindAt k hk
     subst ea
     have HLEN := hid (show (putL ts k ts[k].kind [wrapN name]).length = ts.length + 1 from HPN.out)
     obtain ⟨Q0, hQ0⟩ : ∃ Q0, putL ts k ts[k].kind [wrapN name] = Q0 := ⟨_, rfl⟩
     rw [hQ0] at CP HPK HWL HLEN
     have e0 : parI ts k = ts[k].kind := parI_at hk
     rw [e0] at HROW
     obtain ⟨t, ht⟩ : ∃ t, ts[k] = t := ⟨_, rfl⟩
     rw [ht] at CP HPK HWL HROW hkb
     have hkn : (k : Int) < (ts.length : Int) := by omega
     have h50 : ts.length <= 50 := hTP.2.1
     clear hT HG HGB hR hz hP hBB hE hB hTP htk ht hQ0 h1 HPN e0 hc hcm hn
     obtain ⟨n, hnn⟩ : ∃ n, ts.length = n := ⟨_, rfl⟩
     rw [hnn] at C CE CC CP HLEN hkn h50 hk ⊢
     clear hnn
     obtain ⟨R, hRR⟩ : ∃ R, (if B = true then P else ts) = R := ⟨_, rfl⟩
     have HRR := hid hRR
     rw [hRR]
     clear hRR
     obtain ⟨K, hK⟩ : ∃ K, t.kind = K := ⟨_, rfl⟩
     rw [hK] at CP HROW hkb
     obtain ⟨hkb1, hkb2⟩ := hkb
     have CP1 := hid (fun wx g h h2 => CP.out wx g h h2)
     have hone : ([wrapN name] : List Tk).length = 1 := rfl
     rw [hone] at CP1
     go_enter Tryz.func31, Tryz.ntmps31
     go_wp2_with fail
     refine C.out.mono ?_
     rintro e w1 ⟨rfl, hb1⟩
     have HB1 := hid hb1
     clear hb1 C
     go_wp2_with fail
     refine (CE.out _ (HR.out.below HB1.out)).mono ?_
     rintro e w2 ⟨rfl, hb2⟩
     have HB2 := hid (bb HB1.out hb2)
     clear hb2 CE
     go_wp2_with fail
     refine (CN.out _).mono ?_
     rintro e w3 ⟨rfl, hb3⟩
     have HB3 := hid (bb HB2.out hb3)
     clear hb3 CN
     obtain ⟨b', o', e', c0, _⟩ := HROW.out _ HB3.out
     obtain ⟨rfl, rfl⟩ : b = b' /\ o = o' := by cases e'; exact ⟨rfl, rfl⟩
     have HB4 := hid (HB3.out.alloc HB3.out.size (.cells #[.int .i64 0, .string name, .slice none 0 0, .string ⟨#[]⟩] 42))
     have HW4 := hid (wrap_row (heap_alloc_new w3 (.cells #[.int .i64 0, .string name, .slice none 0 0, .string ⟨#[]⟩] 42)))
     clear e'
     go_wp2_with fail
     refine (CP1.out _ _ (HR.out.below HB4.out) HW4.out).mono ?_
     rintro e w5 ⟨v5, rfl, hr5⟩
     have HR5 := hid (RowOf.later HB4.out hr5)
     obtain ⟨g, c5, hv5, hg5, ⟨aa, ca, d0, d1, d2, d3⟩, hfz, hset, _⟩ := HR5.out.put HPK.out
     subst hv5
     have f0 := hfz ((k + 1) * 4)
     have HS := hid (hset (k : Int))
     have hone2 : k + ([wrapN name] : List Tk).length = k + 1 := rfl
     rw [hone2] at d0 HS
     have HS2 := hid (show RowOf w (w5.setCell ⟨g, (k + 1) * 4, none⟩ (.int .i64 (k : Int))) (.slice (some ⟨g, 0, none⟩) Q0.length c5) P by rw [HWL.out]; exact HS.out)
     rw [HLEN.out] at HS2 ⊢
     clear hr5 CP CP1 d1 d2 d3 hfz hset HS HB4 HW4 c0
     obtain ⟨w6, hw6⟩ : ∃ w6, w5.setCell ⟨g, (k + 1) * 4, none⟩ (.int .i64 (k : Int)) = w6 := ⟨_, rfl⟩
     rw [hw6] at HS2
     obtain ⟨a6, c6, hv6, ht6⟩ := HS2.out.tk
     obtain ⟨rfl, hpl, rfl⟩ : some ⟨g, 0, none⟩ = a6 /\ n + 1 = P.length /\ c5 = c6 := by injection hv6 with h1 h2 h3; exact ⟨h1, h2, h3⟩
     rw [<- hpl] at CQ
     have HT6 := hid ht6
     clear hv6 ht6 hpl
     have hk2 : (k : Int) + 1 < (n : Int) + 1 := by omega
     go_wp2_with fail
     refine (CQ.out _ _ _ HT6.out).mono ?_
     rintro e w7 ⟨rfl, hb7⟩
     have HB7 := hid (bb HS2.out.bel hb7)
     have HR7 := hid (HS2.out.below hb7)
     clear hb7 CQ d0 f0 hw6
     cases B with
     | false =>
      have HF := hid (show R = ts from HRR.out.symm)
      go_wp2_with fail
      refine (CC.out _ (HR.out.below HB7.out)).mono ?_
      rintro e w8 ⟨v8, rfl, hr8⟩
      have HR8 := hid (RowOf.later HB7.out hr8)
      clear hr8 CC
      go_wp2_with fail
      go_ret2
      exact ⟨_, rfl, by rw [HF.out]; exact HR8.out⟩
     | true =>
      have HF := hid (show R = P from HRR.out.symm)
      go_wp2_with fail
      go_ret2
      exact ⟨_, rfl, by rw [HF.out]; exact HR7.out⟩

end Go.Proofs.YtlpbbkaelbafdaaGreatDoor
