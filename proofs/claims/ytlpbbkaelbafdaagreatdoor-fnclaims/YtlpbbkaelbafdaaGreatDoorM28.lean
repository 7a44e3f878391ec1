/-  -/
import Derived.Test.YtlpbbkaelbafdaaGreatDoorM15
import Derived.Test.YtlpbbkaelbafdaaGreatDoorM6
import Derived.Test.YtlpbbkaelbafdaaGreatDoorM4
import Derived.Test.YtlpbbkaelbafdaaGreatDoorM27
import Derived.Test.YtlpbbkaelbafdaaGreatDoorM24
import Derived.Deep.QuietTactic
import Derived.BigQuiet
set_option linter.unusedVariables false
set_option linter.unusedSimpArgs false
namespace Go.Proofs.YtlpbbkaelbafdaaGreatDoor
open Go.RowKit

theorem tk_take {w : World} {a : Option Addr} {ts : List Tk} (h : TkRow w a ts) (m : Nat) : TkRow w a (ts.take m) := by
 intro j hj
 rw [List.length_take] at hj
 obtain ⟨b, o, aa, ca, e, hb, q⟩ := h j (by omega)
 rw [List.getElem_take]
 exact ⟨b, o, aa, ca, e, hb, q⟩

theorem sz_take {ts : List Tk} {b : Nat} (h : TksSz b ts) (m : Nat) : TksSz b (ts.take m) := fun t ht => h t (List.mem_of_mem_take ht)

def KindB (ts : List Tk) : Prop := ∀ t ∈ ts, -1 <= t.kind /\ t.kind < 50

theorem tree_kindB {ts : List Tk} (hT : TreeP ts) : KindB ts := fun t ht => by
 obtain ⟨i, hi, rfl⟩ := List.getElem_of_mem ht
 exact tree_kind hT (List.getElem?_eq_getElem hi)

set_option maxRecDepth 4000 in
set_option maxHeartbeats 8000000 in
theorem cPutL (a a2 : Option Addr) (cap cap2 : Nat) (ts br : List Tk) (e0 : Nat) (par : Int) (w : World) (hR : TkRow w a ts) (hR2 : TkRow w a2 br) (hK : KindB ts) (hK2 : KindB br) (he : e0 <= ts.length) (hc : ts.length <= cap) (hcm : cap <= maxLen) (hn : ts.length <= 50) (hn2 : br.length <= 50) (hz : TksSz 1048576 ts) (hz2 : TksSz 1048576 br) :
  Calls Tryz.prog 55 #[.slice a ts.length cap, .int .i64 (e0 : Int), .int .i64 par, .slice a2 br.length cap2] w fun e' w' => ∃ v, e' = .returned v /\ RowOf w w' v (putL ts e0 par br) := by
 have HR := hid hR
 have HZ := hid hz
 have HR2 := hid hR2
 have HZ2 := hid hz2
 have HK := hid hK
 have HK2 := hid hK2
 unfold maxLen at hcm
 have CT := hid (cCopyT a cap (ts.take e0) w (tk_take hR e0) (by rw [List.length_take]; omega) (sz_take hz e0))
 have hte : (ts.take e0).length = e0 := by rw [List.length_take]; omega
 rw [hte] at CT
 have HPT := hid (show putL ts e0 par br = (ts.take e0 ++ segN (fun i t => if i = 0 then par else t.kind + (e0 : Int)) br 0 br.length) ++ segN (fun _ t => if (e0 : Int) <= t.kind then t.kind + (br.length : Int) else t.kind) ts e0 (ts.length - e0) by unfold putL; rw [segN_same e0 he])
 rw [HPT.out]
 obtain ⟨n2, hnn2⟩ : ∃ n2, br.length = n2 := ⟨_, rfl⟩
 have HN2 := hid hnn2
 obtain ⟨n, hnn⟩ : ∃ n, ts.length = n := ⟨_, rfl⟩
 have HN := hid hnn
 rw [hnn2] at hn2 ⊢
 rw [hnn] at hn he hc ⊢
 obtain ⟨L0, hL0⟩ : ∃ L0, ts.take e0 ++ segN (fun i t => if i = 0 then par else t.kind + (e0 : Int)) br 0 n2 = L0 := ⟨_, rfl⟩
 have HL0 := hid (show L0.length <= 100 by rw [<- hL0, List.length_append, List.length_take, segN_len n2 (by rw [hnn2]; omega)]; omega)
 have HE0 := hid hL0
 rw [hL0]
 clear hL0
 clear hR hz hR2 hz2 hK hK2 hte HPT hnn hnn2
 have hec : (e0 : Int) <= (cap : Int) := by omega
 go_enter Tryz.func55, Tryz.ntmps55
 go_wp2_with fail
 refine CT.out.mono ?_
 rintro e1 w1 ⟨v1, rfl, hr1⟩
 have HX0 := hid hr1
 clear hr1 CT
 go_wp2_with fail
 go_loopw [9, 10] (fun v k wr => ∃ i : Nat, k = .int .i64 (i : Int) /\ i <= n2 /\ Hid (RowOf w wr v (ts.take e0 ++ segN (fun i t => if i = 0 then par else t.kind + (e0 : Int)) br 0 i))) (fun _ k _ => n2 - (intOf k).toNat)
 case atStart => exact ⟨0, rfl, Nat.zero_le _, by show RowOf _ _ _ (_ ++ []); rw [List.append_nil]; exact HX0.out⟩
 case round =>
  clear HX0
  obtain ⟨i, rfl, hi, HX⟩ := hrel
  by_cases hlt : i < n2
  ·have his : i < br.length := by rw [HN2.out]; exact hlt
   have hin : (i : Int) < (n2 : Int) := by omega
   have HTS := hid (segN_next (f := fun i t => if i = 0 then par else t.kind + (e0 : Int)) (ts := br) (k := 0) (m := i) (t := br[i]) (by rw [Nat.zero_add]; exact seg_of his))
   rw [Nat.zero_add] at HTS
   have HLT := hid (show (ts.take e0 ++ segN (fun i t => if i = 0 then par else t.kind + (e0 : Int)) br 0 i).length <= 1048576 by rw [List.length_append, List.length_take, segN_len i (by omega)]; omega)
   have hkb := HK2.out _ (List.getElem_mem his)
   have HZT := hid (HZ2.out _ (List.getElem_mem his))
   obtain ⟨b, o, aa, ca, e', hb, q0, q1, q2, q3, hA⟩ := (HR2.out.below HX.out.bel) i his
   subst e'
   have HAT := hid hA
   obtain ⟨t, ht⟩ : ∃ t, br[i] = t := ⟨_, rfl⟩
   rw [ht] at q0 q1 q2 q3 HAT HZT HTS hkb
   clear ht hA
   obtain ⟨nA, hnA⟩ : ∃ nA, t.attrs.length = nA := ⟨_, rfl⟩
   have HNA := hid hnA
   rw [hnA] at q2
   clear hnA
   have HL1 := hid ((Below.refl wr.heap.size wr).alloc (Nat.le_refl _) (.cells #[.int .i64 t.kind, .string t.name, .slice aa nA ca, .string t.text] 42))
   have CC := hid (fun wx (h : AtRow wx aa t.attrs) => cCopyS aa ca t.attrs wx h HZT.out.2.1)
   rw [HNA.out] at CC
   obtain ⟨K, hK⟩ : ∃ K, t.kind = K := ⟨_, rfl⟩
   have HKK := hid hK
   rw [hK] at q0 hkb HL1
   obtain ⟨hk1, hk2⟩ := hkb
   clear hK
   go_wp2_with fail
   refine (CC.out _ (HAT.out.below HL1.out)).mono ?_
   rintro e w2 ⟨a1, c1, rfl, ha1, hb2⟩
   have HBX := hid (Bx.made (c1 := c1) (t := t) (nA := nA) (aa := aa) (ca := ca) (a1 := a1) (w2 := w2) (by rw [HKK.out]; simpa using hb2) (by simpa using ha1))
   have M2 := hid (blk_below (heap_alloc_new _ _) hb2)
   obtain ⟨⟨x0, x1, x2, x3⟩, f0, f1, f2, f3⟩ := box4 M2.out
   clear ha1 hb2 CC HL1 q0 q1 q2 q3 hb M2
   obtain ⟨w3, hw3⟩ : ∃ w3, w2.setCell ⟨wr.heap.size, 2, none⟩ (.slice a1 nA c1) = w3 := ⟨_, rfl⟩
   rw [hw3] at HBX
   obtain ⟨⟨y0, y1, y2, y3⟩, g0, g1, g2, g3⟩ := box4 HBX.out.box
   rw [HKK.out] at y0
   have HBX4 := hid (HBX.out.kind (K + (e0 : Int)))
   obtain ⟨w4, hw4⟩ : ∃ w4, w3.setCell ⟨wr.heap.size, 0, none⟩ (.int .i64 (K + (e0 : Int))) = w4 := ⟨_, rfl⟩
   rw [hw4] at HBX4
   obtain ⟨⟨z0, z1, z2, z3⟩, h0, h1, h2, h3⟩ := box4 HBX4.out.box
   by_cases hm0 : i = 0
   ·have HBX5 := hid (HBX4.out.kind par)
    obtain ⟨w5, hw5⟩ : ∃ w5, w4.setCell ⟨wr.heap.size, 0, none⟩ (.int .i64 par) = w5 := ⟨_, rfl⟩
    rw [hw5] at HBX5
    obtain ⟨⟨v0, v1, v2, v3⟩, _⟩ := box4 HBX5.out.box
    have HFN := hid (show shK par (shK (K + (e0 : Int)) t) = shK (if i = 0 then par else t.kind + (e0 : Int)) t by rw [if_pos hm0]; rfl)
    have hqq : ((i : Int) == 0) = true := by simp; omega
    clear hm0
    go_wp2_with (at_builtin; refine wpL_bx w wr w5 rfl _ _ rfl u9 _ rfl HX.out (shK par (shK (K + (e0 : Int)) t)) a1 c1 nA rfl HNA.out HBX5.out HLT.out ?_)
    intro v6 w6 hr6
    have HR6 := hid hr6
    rw [HFN.out] at HR6
    try rw [List.append_assoc] at HR6
    rw [<- HTS.out] at HR6
    clear hr6 x0 x1 x2 x3 y0 y1 y2 y3 z0 z1 z2 z3 v0 v1 v2 v3 hw3 hw4 hw5
    go_wp2_with fail
    go_roundw
    case rel => exact ⟨i + 1, by go_num, by omega, HR6.out⟩
    case measure => simp [intOf]; omega
   ·have HFN := hid (show shK (K + (e0 : Int)) t = shK (if i = 0 then par else t.kind + (e0 : Int)) t by rw [if_neg hm0, HKK.out])
    have hqq : ((i : Int) == 0) = false := by simp; omega
    clear hm0
    go_wp2_with (at_builtin; refine wpL_bx w wr w4 rfl _ _ rfl u9 _ rfl HX.out (shK (K + (e0 : Int)) t) a1 c1 nA rfl HNA.out HBX4.out HLT.out ?_)
    intro v6 w6 hr6
    have HR6 := hid hr6
    rw [HFN.out] at HR6
    try rw [List.append_assoc] at HR6
    rw [<- HTS.out] at HR6
    clear hr6 x0 x1 x2 x3 y0 y1 y2 y3 z0 z1 z2 z3 hw3 hw4
    go_wp2_with fail
    go_roundw
    case rel => exact ⟨i + 1, by go_num, by omega, HR6.out⟩
    case measure => simp [intOf]; omega
  ·have hie : i = n2 := by omega
   subst hie
   rw [HE0.out] at HX
   clear HE0 HR2 HZ2 HK2
   go_wp2_with fail
   go_loopw [9, 12] (fun v k wr => ∃ m : Nat, k = .int .i64 ((e0 + m : Nat) : Int) /\ e0 + m <= n /\ Hid (RowOf w wr v (L0 ++ segN (fun _ t => if (e0 : Int) <= t.kind then t.kind + (i : Int) else t.kind) ts e0 m))) (fun _ k _ => n - (intOf k).toNat)
   case atStart => exact ⟨0, rfl, by omega, by show RowOf _ _ _ (_ ++ []); rw [List.append_nil]; exact HX.out⟩
   case round =>
    clear HX
    obtain ⟨m, rfl, hm, HX⟩ := hrel
    obtain ⟨j, hj⟩ : ∃ j, e0 + m = j := ⟨_, rfl⟩
    have HJ := hid hj
    rw [hj] at hm ⊢
    by_cases hjl : j < n
    ·have hjs : j < ts.length := by rw [HN.out]; exact hjl
     have hjn : (j : Int) < (n : Int) := by omega
     have HTS := hid (segN_next (f := fun _ t => if (e0 : Int) <= t.kind then t.kind + (i : Int) else t.kind) (ts := ts) (k := e0) (m := m) (t := ts[j]) (by rw [hj]; exact seg_of hjs))
     have HLT := hid (show (L0 ++ segN (fun _ t => if (e0 : Int) <= t.kind then t.kind + (i : Int) else t.kind) ts e0 m).length <= 1048576 by rw [List.length_append, segN_len m (by omega)]; have := HL0.out; omega)
     have hkb := HK.out _ (List.getElem_mem hjs)
     have HZT := hid (HZ.out _ (List.getElem_mem hjs))
     obtain ⟨b, o, aa, ca, e', hb, q0, q1, q2, q3, hA⟩ := (HR.out.below HX.out.bel) j hjs
     subst e'
     have HAT := hid hA
     obtain ⟨t, ht⟩ : ∃ t, ts[j] = t := ⟨_, rfl⟩
     rw [ht] at q0 q1 q2 q3 HAT HZT HTS hkb
     clear ht hA
     obtain ⟨nA, hnA⟩ : ∃ nA, t.attrs.length = nA := ⟨_, rfl⟩
     have HNA := hid hnA
     rw [hnA] at q2
     clear hnA hj
     have HL1 := hid ((Below.refl wr.heap.size wr).alloc (Nat.le_refl _) (.cells #[.int .i64 t.kind, .string t.name, .slice aa nA ca, .string t.text] 42))
     have CC := hid (fun wx (h : AtRow wx aa t.attrs) => cCopyS aa ca t.attrs wx h HZT.out.2.1)
     rw [HNA.out] at CC
     obtain ⟨K, hK⟩ : ∃ K, t.kind = K := ⟨_, rfl⟩
     have HKK := hid hK
     rw [hK] at q0 hkb HL1
     obtain ⟨hk1, hk2⟩ := hkb
     clear hK
     go_wp2_with fail
     refine (CC.out _ (HAT.out.below HL1.out)).mono ?_
     rintro e w2 ⟨a1, c1, rfl, ha1, hb2⟩
     have HBX := hid (Bx.made (c1 := c1) (t := t) (nA := nA) (aa := aa) (ca := ca) (a1 := a1) (w2 := w2) (by rw [HKK.out]; simpa using hb2) (by simpa using ha1))
     have M2 := hid (blk_below (heap_alloc_new _ _) hb2)
     obtain ⟨⟨x0, x1, x2, x3⟩, f0, f1, f2, f3⟩ := box4 M2.out
     clear ha1 hb2 CC HL1 q0 q1 q2 q3 hb M2
     obtain ⟨w3, hw3⟩ : ∃ w3, w2.setCell ⟨wr.heap.size, 2, none⟩ (.slice a1 nA c1) = w3 := ⟨_, rfl⟩
     rw [hw3] at HBX
     obtain ⟨⟨y0, y1, y2, y3⟩, g0, g1, g2, g3⟩ := box4 HBX.out.box
     rw [HKK.out] at y0
     by_cases hge : (e0 : Int) <= K
     ·have HBX4 := hid (HBX.out.kind (K + (i : Int)))
      obtain ⟨w4, hw4⟩ : ∃ w4, w3.setCell ⟨wr.heap.size, 0, none⟩ (.int .i64 (K + (i : Int))) = w4 := ⟨_, rfl⟩
      rw [hw4] at HBX4
      obtain ⟨⟨z0, z1, z2, z3⟩, h0, h1, h2, h3⟩ := box4 HBX4.out.box
      have HFN := hid (show shK (K + (i : Int)) t = shK (if (e0 : Int) <= t.kind then t.kind + (i : Int) else t.kind) t by rw [HKK.out, if_pos hge])
      have hgd : decide ((e0 : Int) <= K) = true := decide_eq_true hge
      go_wp2_with (at_builtin; refine wpL_bx w wr w4 rfl _ _ rfl u9 _ rfl HX.out (shK (K + (i : Int)) t) a1 c1 nA rfl HNA.out HBX4.out HLT.out ?_)
      intro v6 w6 hr6
      have HR6 := hid hr6
      rw [HFN.out] at HR6
      try rw [List.append_assoc] at HR6
      rw [<- HTS.out] at HR6
      clear hr6 x0 x1 x2 x3 y0 y1 y2 y3 z0 z1 z2 z3 hw3 hw4
      go_wp2_with fail
      go_roundw
      case rel => exact ⟨m + 1, by rw [<- HJ.out]; go_num, by have := HJ.out; omega, HR6.out⟩
      case measure => simp [intOf]; omega
     ·have HFN := hid (show shK K t = shK (if (e0 : Int) <= t.kind then t.kind + (i : Int) else t.kind) t by rw [HKK.out, if_neg hge])
      have HBX4 := hid (show Bx wr w3 (shK K t) nA a1 c1 by rw [show shK K t = t by rw [<- HKK.out]; rfl]; exact HBX.out)
      have hgd : decide ((e0 : Int) <= K) = false := decide_eq_false hge
      go_wp2_with (at_builtin; refine wpL_bx w wr w3 rfl _ _ rfl u9 _ rfl HX.out (shK K t) a1 c1 nA rfl HNA.out HBX4.out HLT.out ?_)
      intro v6 w6 hr6
      have HR6 := hid hr6
      rw [HFN.out] at HR6
      try rw [List.append_assoc] at HR6
      rw [<- HTS.out] at HR6
      clear hr6 x0 x1 x2 x3 y0 y1 y2 y3 hw3
      go_wp2_with fail
      go_roundw
      case rel => exact ⟨m + 1, by rw [<- HJ.out]; go_num, by have := HJ.out; omega, HR6.out⟩
      case measure => simp [intOf]; omega
    ·have hje : j = n := by omega
     subst hje
     have HY := hid (show RowOf w wr u9 (L0 ++ segN (fun _ t => if (e0 : Int) <= t.kind then t.kind + (i : Int) else t.kind) ts e0 (j - e0)) by
      have h := HX.out
      rw [show j - e0 = m by omega]
      exact h)
     clear HX
     go_wp2_with fail
     go_ret
     exact ⟨_, rfl, HY.out⟩

end Go.Proofs.YtlpbbkaelbafdaaGreatDoor

namespace Go.Proofs.YtlpbbkaelbafdaaGreatDoor
open Go.RowKit

theorem put_sz {ts br : List Tk} {e : Nat} {par : Int} {b : Nat} (h : TksSz b ts) (h2 : TksSz b br) : TksSz b (putL ts e par br) := by
 intro t ht
 unfold putL at ht
 rcases List.mem_append.1 ht with h' | h'
 ·rcases List.mem_append.1 h' with h'' | h''
  ·exact segN_sz h _ t h''
  ·exact segN_sz h2 _ t h''
 ·exact segN_sz h _ t h'

noncomputable def graftB (ts br : List Tk) (x : Int) : Bool := elemB ts x && (treeB br && treeB (putL ts (endN ts x.toNat) x br))

noncomputable def graftL (ts br : List Tk) (x : Int) : List Tk := if treeB ts then (if graftB ts br x then putL ts (endN ts x.toNat) x br else ts) else []

theorem elemB_tree {ts : List Tk} {x : Int} (h : treeB ts = false) : elemB ts x = false := by
 unfold elemB hasB
 rw [h]
 rfl

set_option maxRecDepth 4000 in
set_option maxHeartbeats 4000000 in
theorem cGraftedS (a a2 : Option Addr) (cap cap2 : Nat) (ts br : List Tk) (x : Int) (w : World) (hR : TkRow w a ts) (hR2 : TkRow w a2 br) (hc : ts.length <= cap) (hcm : cap <= maxLen) (hn : ts.length <= 1048576) (hn2 : br.length <= 1048576) (hz : TksSz 1048576 ts) (hz2 : TksSz 1048576 br) :
  Calls Tryz.prog 15 #[.slice a ts.length cap, .int .i64 x, .slice a2 br.length cap2] w (TreeAns w (graftL ts br x) (graftB ts br x)) := by
 have C := hid (cTreeOkS a cap ts w hR hn hz)
 have HR := hid hR
 have HR2 := hid hR2
 have CC := hid (fun wx (h : TkRow wx a ts) => cCopyT a cap ts wx h hn hz)
 cases hT : treeB ts with
 | false =>
  have HE := hid (And.intro (show graftL ts br x = [] by unfold graftL; rw [hT]; rfl) (show graftB ts br x = false by unfold graftB; rw [elemB_tree hT]; rfl))
  rw [HE.out.1, HE.out.2]
  rw [hT] at C
  clear hT HE hR hR2 hz hz2
  generalize ts.length = n at *
  generalize br.length = n2 at *
  go_enter Tryz.func15, Tryz.ntmps15
  go_wp2_with fail
  refine C.out.mono ?_
  rintro e w1 ⟨rfl, hb1⟩
  have HB1 := hid hb1
  clear hb1 C
  go_wp2_with fail
  go_ret2
  exact TreeAns.none HB1.out
 | true =>
  have CE := hid (fun wx (h : TkRow wx a ts) => c_spec_l9Element a cap ts x wx h hn hz)
  have CO := hid (fun wx (h : TkRow wx a2 br) => cTreeOkS a2 cap2 br wx h hn2 hz2)
  have HG := hid (show graftL ts br x = if graftB ts br x then putL ts (endN ts x.toNat) x br else ts by unfold graftL; rw [hT]; rfl)
  rw [HG.out]
  rw [hT] at C
  cases hE : elemB ts x with
  | false =>
   have HV := hid (show graftB ts br x = false by unfold graftB; rw [hE]; rfl)
   rw [HV.out]
   rw [hE] at CE
   show Calls _ _ _ _ (TreeAns w ts false)
   clear hT HG HV hR hR2 hz hz2 CO
   generalize ts.length = n at *
   generalize br.length = n2 at *
   go_enter Tryz.func15, Tryz.ntmps15
   go_wp2_with fail
   refine C.out.mono ?_
   rintro e w1 ⟨rfl, hb1⟩
   have HB1 := hid hb1
   clear hb1 C
   go_wp2_with fail
   refine (CE.out _ (HR.out.below HB1.out)).mono ?_
   rintro e w2 ⟨rfl, hb2⟩
   have HB2 := hid (bb HB1.out hb2)
   clear hb2 CE
   go_wp2_with fail
   refine (CC.out _ (HR.out.below HB2.out)).mono ?_
   rintro e w3 ⟨v3, rfl, hr3⟩
   have HR3 := hid (RowOf.later HB2.out hr3)
   clear hr3 CC
   go_wp2_with fail
   go_ret2
   exact ⟨_, rfl, HR3.out⟩
  | true =>
   rw [hE] at CE
   cases hB : treeB br with
   | false =>
    have HV := hid (show graftB ts br x = false by unfold graftB; rw [hB, Bool.false_and, Bool.and_false])
    rw [HV.out]
    rw [hB] at CO
    show Calls _ _ _ _ (TreeAns w ts false)
    clear hT HG HV hR hR2 hz hz2
    generalize ts.length = n at *
    generalize br.length = n2 at *
    go_enter Tryz.func15, Tryz.ntmps15
    go_wp2_with fail
    refine C.out.mono ?_
    rintro e w1 ⟨rfl, hb1⟩
    have HB1 := hid hb1
    clear hb1 C
    go_wp2_with fail
    refine (CE.out _ (HR.out.below HB1.out)).mono ?_
    rintro e w2 ⟨rfl, hb2⟩
    have HB2 := hid (bb HB1.out hb2)
    clear hb2 CE
    go_wp2_with fail
    refine (CO.out _ (HR2.out.below HB2.out)).mono ?_
    rintro e w3 ⟨rfl, hb3⟩
    have HB3 := hid (bb HB2.out hb3)
    clear hb3 CO
    go_wp2_with fail
    refine (CC.out _ (HR.out.below HB3.out)).mono ?_
    rintro e w4 ⟨v4, rfl, hr4⟩
    have HR4 := hid (RowOf.later HB3.out hr4)
    clear hr4 CC
    go_wp2_with fail
    go_ret2
    exact ⟨_, rfl, HR4.out⟩
   | true =>
    rw [hB] at CO
    obtain ⟨hTP, k, rfl, hk⟩ := elemB_t hE
    have hBP : TreeP br := by unfold treeB at hB; simpa using hB
    have CL := hid (fun wx (h : TkRow wx a ts) => cEndS a cap ts k wx h hk hn)
    have hle := endN_le hk
    have CP := hid (fun wx (h : TkRow wx a ts) (h2 : TkRow wx a2 br) => cPutL a a2 cap cap2 ts br (endN ts k) (k : Int) wx h h2 (tree_kindB hTP) (tree_kindB hBP) hle.2 hc hcm hTP.2.1 hBP.2.1 hz hz2)
    have HPL := hid (show (putL ts (endN ts k) (k : Int) br).length <= 1048576 by rw [putL_len hle.2]; have := hTP.2.1; have := hBP.2.1; omega)
    have HPZ := hid (put_sz (e := endN ts k) (par := (k : Int)) hz hz2)
    have HGB := hid (show graftB ts br (k : Int) = treeB (putL ts (endN ts k) (k : Int) br) by unfold graftB; rw [hE, hB]; rfl)
    rw [HGB.out]
    show Calls _ _ _ _ (TreeAns w (if treeB (putL ts (endN ts k) (k : Int) br) then putL ts (endN ts k) (k : Int) br else ts) _)
    obtain ⟨P, hP⟩ : ∃ P, putL ts (endN ts k) (k : Int) br = P := ⟨_, rfl⟩
    rw [hP] at CP HPL HPZ ⊢
    have CQ := hid (fun wx aP cP (h : TkRow wx aP P) => cTreeOkS aP cP P wx h HPL.out HPZ.out)
    obtain ⟨B, hBB⟩ : ∃ B, treeB P = B := ⟨_, rfl⟩
    rw [hBB] at CQ ⊢
    clear hT HG HGB hR hR2 hz hz2 hP hBB hE hB hTP hBP
    generalize endN ts k = E at *
    generalize ts.length = n at *
    generalize br.length = n2 at *
    obtain ⟨R, hRR⟩ : ∃ R, (if B = true then P else ts) = R := ⟨_, rfl⟩
    have HRR := hid hRR
    rw [hRR]
    clear hRR
    go_enter Tryz.func15, Tryz.ntmps15
    go_wp2_with fail
    refine C.out.mono ?_
    rintro e w1 ⟨rfl, hb1⟩
    have HB1 := hid hb1
    clear hb1 C
    go_wp2_with fail
    refine (CE.out _ (HR.out.below HB1.out)).mono ?_
    rintro e w2 ⟨rfl, hb2⟩
    have HB2 := hid (bb HB1.out hb2)
    clear hb2 CE
    go_wp2_with fail
    refine (CO.out _ (HR2.out.below HB2.out)).mono ?_
    rintro e w3 ⟨rfl, hb3⟩
    have HB3 := hid (bb HB2.out hb3)
    clear hb3 CO
    go_wp2_with fail
    refine (CL.out _ (HR.out.below HB3.out)).mono ?_
    rintro e w4 ⟨rfl, rfl⟩
    go_wp2_with fail
    refine (CP.out _ (HR.out.below HB3.out) (HR2.out.below HB3.out)).mono ?_
    rintro e w5 ⟨v5, rfl, hr5⟩
    have HR5 := hid (RowOf.later HB3.out hr5)
    obtain ⟨a5, c5, hv5, ht5⟩ := hr5.tk
    subst hv5
    have HT5 := hid ht5
    clear hr5 CP ht5
    obtain ⟨pn, hpn⟩ : ∃ pn, P.length = pn := ⟨_, rfl⟩
    rw [hpn] at CQ HR5 ⊢
    clear hpn
    go_wp2_with fail
    refine (CQ.out _ _ _ HT5.out).mono ?_
    rintro e w6 ⟨rfl, hb6⟩
    have HB6 := hid (bb HR5.out.bel hb6)
    have HR6 := hid (HR5.out.below hb6)
    clear hb6 CQ
    cases B with
    | false =>
     have HF := hid (show R = ts from HRR.out.symm)
     go_wp2_with fail
     refine (CC.out _ (HR.out.below HB6.out)).mono ?_
     rintro e w7 ⟨v7, rfl, hr7⟩
     have HR7 := hid (RowOf.later HB6.out hr7)
     clear hr7 CC
     go_wp2_with fail
     go_ret2
     exact ⟨_, rfl, by rw [HF.out]; exact HR7.out⟩
    | true =>
     have HF := hid (show R = P from HRR.out.symm)
     go_wp2_with fail
     go_ret2
     exact ⟨_, rfl, by rw [HF.out]; exact HR6.out⟩

end Go.Proofs.YtlpbbkaelbafdaaGreatDoor

namespace Go.Proofs.YtlpbbkaelbafdaaGreatDoor
open Go.RowKit

def brL : List Tk := [⟨-1, otherS, [⟨nsS, wS⟩], ⟨#[]⟩⟩, ⟨0, ⟨#[]⟩, [], xS⟩]

theorem br_tree : TreeP brL := by
 have el : elN brL 0 := ⟨by decide, show ¬ otherS.size = 0 by decide⟩
 refine ⟨by decide, by decide, rfl, el, fun i hi => ?_⟩
 match i, hi with
 | 0, _ =>
  refine ⟨⟨by decide, ?_⟩, .inl rfl, by decide, fun ⟨_, h0, _⟩ => absurd h0 (by decide)⟩
  show nodeB ⟨-1, otherS, [⟨nsS, wS⟩], ⟨#[]⟩⟩ = true
  unfold nodeB
  rw [if_neg (show ¬ otherS.size = 0 by decide), show nameL otherS.data.toList = true by decide, atsOk_one ⟨show nameL nsS.data.toList = true by decide, show plainL wS.data.toList = true by decide, show wS.size <= 60 by decide⟩]
  rfl
 | 1, _ =>
  refine ⟨⟨by decide, ?_⟩, .inr ⟨0, by decide, rfl, el⟩, by decide, fun ⟨_, _, _, h2, _⟩ => absurd h2 (show ¬ otherS.size = 0 by decide)⟩
  show nodeB ⟨0, ⟨#[]⟩, [], xS⟩ = true
  unfold nodeB
  rw [if_pos (show (⟨#[]⟩ : ByteArray).size = 0 from rfl), text_ok (s := xS) (by decide) (by decide) (by decide)]
  rfl

theorem br_sz : TksSz 1048576 brL := by
 intro t ht
 rcases List.mem_cons.1 ht with rfl | ht
 ·exact ⟨by decide, by decide, fun x hx => by rw [List.mem_singleton.1 hx]; exact ⟨by decide, by decide⟩, by decide⟩
 ·rw [List.mem_singleton.1 ht]
  exact ⟨show (⟨#[]⟩ : ByteArray).size <= 1048576 by decide, show ([] : List At).length <= 1048576 by decide, fun x (hx : x ∈ ([] : List At)) => absurd hx List.not_mem_nil, show xS.size <= 1048576 by decide⟩

theorem end_zero {T : List Tk} (hT : TreeP T) : endN T 0 = T.length := by
 refine endN_is (by have := hT.1; omega) (Nat.le_refl _) (fun j h0 hj => ?_) (.inl rfl)
 rcases (hT.2.2.2.2 j hj).2.1 with h | ⟨p, _, e, _⟩
 ·omega
 ·rw [<- e]; omega

theorem put_is {T : List Tk} (hT : TreeP T) : putL T (endN T 0) 0 brL = addE T otherE := by
 rw [end_zero hT, addE_is]
 unfold putL
 rw [segN_all, Nat.sub_self]
 show (T ++ [shK 0 _, shK (0 + (T.length : Int)) _]) ++ [] = T ++ newE T.length otherE
 rw [List.append_nil, Int.zero_add]
 congr 1

theorem graft_is {c : Cm} (hc : claimB c = true) : graftL (treeTo c (qTx c.frm) (qTx c.til) 6) brL 0 = flatE (headT c) (entTo c (qTx c.frm) (qTx c.til) 6 ++ [otherE]) /\ graftB (treeTo c (qTx c.frm) (qTx c.til) 6) brL 0 = true := by
 obtain ⟨n1, n2, _, _⟩ := claim_back hc _ (.inl rfl)
 obtain ⟨m1, m2, _, _⟩ := claim_back hc _ (.inr rfl)
 have t1 := (idsB_t n2).2
 have t2 := (idsB_t m2).2
 rw [tree_flat]
 generalize hT : flatE (headT c) (entTo c (qTx c.frm) (qTx c.til) 6) = T at *
 have hTP : TreeP T := by have h := t1; unfold treeB at h; simpa using h
 have hh : T[0]? = some (headT c) := by rw [<- hT]; exact (flat_all _ _).head
 have e0 : putL T (endN T 0) 0 brL = flatE (headT c) (entTo c (qTx c.frm) (qTx c.til) 6 ++ [otherE]) := by
  rw [put_is hTP, flatE_snoc, hT]
 have hel : elemB T 0 = true := by
  unfold elemB hasB
  rw [t1, decide_eq_true (show (0 : Int) <= 0 /\ (0 : Int) < T.length by have := hTP.1; omega)]
  have : nameI T (0 : Int).toNat = cClaimS := by show nameI T 0 = _; unfold nameI; rw [hh]; rfl
  rw [this]
  decide
 have hg : graftB T brL 0 = true := by
  unfold graftB
  show (elemB T 0 && (treeB brL && treeB (putL T (endN T 0) 0 brL))) = true
  rw [hel, treeB_t br_tree, e0, t2]
  rfl
 refine ⟨?_, hg⟩
 unfold graftL
 rw [if_pos t1, if_pos hg]
 exact e0

theorem like_claimT {c : Cm} (hc : claimB c = true) : claimT c (qTx c.frm) (qTx c.til) = flatE (headT c) (entTo c (qTx c.frm) (qTx c.til) 6) := by
 unfold claimT
 rw [if_pos hc, tree_flat]

end Go.Proofs.YtlpbbkaelbafdaaGreatDoor

namespace Go.Proofs.YtlpbbkaelbafdaaGreatDoor
open Go.RowKit

theorem sp_inj : ∀ (a b c d : List UInt8), (∀ x ∈ a, ¬ x = 32) -> (∀ x ∈ c, ¬ x = 32) -> a ++ 32 :: b = c ++ 32 :: d -> a = c /\ b = d
 | [], b, [], d, _, _, h => ⟨rfl, by simpa using h⟩
 | [], b, y :: c, d, _, hc, h => by
  simp only [List.nil_append, List.cons_append, List.cons.injEq] at h
  exact absurd h.1.symm (hc y (List.mem_cons_self ..))
 | x :: a, b, [], d, ha, _, h => by
  simp only [List.nil_append, List.cons_append, List.cons.injEq] at h
  exact absurd h.1 (ha x (List.mem_cons_self ..))
 | x :: a, b, y :: c, d, ha, hc, h => by
  simp only [List.cons_append, List.cons.injEq] at h
  obtain ⟨e1, e2⟩ := sp_inj a b c d (fun z hz => ha z (List.mem_cons_of_mem _ hz)) (fun z hz => hc z (List.mem_cons_of_mem _ hz)) h.2
  exact ⟨by rw [h.1, e1], e2⟩

def NoSp (s : ByteArray) : Prop := ∀ x ∈ s.data.toList, ¬ x = 32

theorem key_inj {a b c d : ByteArray} (ha : NoSp a) (hc : NoSp c) (h : (a ++ ⟨#[32]⟩) ++ b = (c ++ ⟨#[32]⟩) ++ d) : a = c /\ b = d := by
 have h2 : a.data.toList ++ 32 :: b.data.toList = c.data.toList ++ 32 :: d.data.toList := by
  have h3 := congrArg (fun s : ByteArray => s.data.toList) h
  simpa using h3
 obtain ⟨e1, e2⟩ := sp_inj _ _ _ _ ha hc h2
 refine ⟨?_, ?_⟩
 ·apply ByteArray.ext
  exact Array.toList_inj.1 e1
 ·apply ByteArray.ext
  exact Array.toList_inj.1 e2

theorem of_nosp {s : ByteArray} (h : ofB sgnS 20 s = true) : NoSp s := by
 intro x hx e
 subst e
 unfold ofB at h
 rw [Bool.and_eq_true] at h
 have h2 := List.all_eq_true.1 h.1 _ hx
 revert h2
 decide

theorem look_nosp {l : List At} (hl : l.all rightB = true) (p : ByteArray) : NoSp ((lookL l p).getD ⟨#[]⟩) := by
 unfold lookL
 cases hf : l.find? (declB p) with
 | none =>
  simp only
  split
  ·intro x hx; cases hx
  ·intro x hx; cases hx
 | some y =>
  simp only [Option.getD_some]
  have h1 := List.all_eq_true.1 hl y (List.mem_of_find?_eq_some hf)
  have h2 := List.find?_some hf
  unfold declB at h2
  have h3 : declF y = some p := by simpa using h2
  unfold rightB at h1
  rw [h3] at h1
  simp only [Bool.and_eq_true] at h1
  exact of_nosp h1.1

noncomputable def pairN (ts : List Tk) (i : Nat) (x : At) : ByteArray × ByteArray := ((meanF ts i (preS x.name)).getD ⟨#[]⟩, locS x.name)

noncomputable def pairsN (ts : List Tk) (i : Nat) (l : List At) : List (ByteArray × ByteArray) := (l.filter cntB).map (pairN ts i)

theorem meanF_look {ts : List Tk} {i : Nat} (h : (outAts ts i).all rightB = true) (p : ByteArray) : meanF ts i p = lookL (outAts ts i) p := by
 rw [meanF_out]
 exact meanL_look p h

theorem pair_mem {ts : List Tk} {i : Nat} (h : (outAts ts i).all rightB = true) (l : List At) (x : At) : keyN ts i x ∈ keysN ts i l ↔ pairN ts i x ∈ pairsN ts i l := by
 unfold keysN pairsN
 rw [List.mem_map, List.mem_map]
 refine exists_congr fun y => and_congr_right fun _ => ?_
 unfold keyN pairN
 have n1 : NoSp ((meanF ts i (preS y.name)).getD ⟨#[]⟩) := by rw [meanF_look h]; exact look_nosp h _
 have n2 : NoSp ((meanF ts i (preS x.name)).getD ⟨#[]⟩) := by rw [meanF_look h]; exact look_nosp h _
 constructor
 ·intro e
  obtain ⟨e1, e2⟩ := key_inj n1 n2 e
  rw [e1, e2]
 ·intro e
  have e1 := congrArg Prod.fst e
  have e2 := congrArg Prod.snd e
  simp only at e1 e2
  rw [e1, e2]

theorem pairsN_skip {ts : List Tk} {i : Nat} {l : List At} {x : At} (hc : cntB x = false) : pairsN ts i (l ++ [x]) = pairsN ts i l := by
 unfold pairsN
 rw [List.filter_append]
 simp [hc]

theorem pairsN_more {ts : List Tk} {i : Nat} {l : List At} {x : At} (hc : cntB x = true) : pairsN ts i (l ++ [x]) = pairsN ts i l ++ [pairN ts i x] := by
 unfold pairsN
 rw [List.filter_append]
 simp [hc]

theorem cntB_is (x : At) : cntB x = (!decide ((preS x.name).size = 0) && !decide (preS x.name = nsS)) := by
 have h0 : preS nsS = ⟨#[]⟩ := by decide +kernel
 unfold cntB declF
 by_cases h1 : x.name = nsS
 ·rw [if_pos h1, h1, h0]
  rfl
 ·rw [if_neg h1]
  by_cases h2 : preS x.name = nsS
  ·rw [if_pos h2, decide_eq_true h2]
   simp
  ·rw [if_neg h2, decide_eq_false h2]
   simp

def prC (ps : List (ByteArray × ByteArray)) : List Value := ps.flatMap fun q => [.string q.1, .string q.2]

theorem prC_snoc (ps : List (ByteArray × ByteArray)) (q : ByteArray × ByteArray) : prC (ps ++ [q]) = prC ps ++ [.string q.1, .string q.2] := by
 unfold prC
 rw [List.flatMap_append]
 simp

theorem prC_get : ∀ (ps : List (ByteArray × ByteArray)) (j : Nat) (h : j < ps.length), (prC ps)[j * 2]? = some (.string ps[j].1) /\ (prC ps)[j * 2 + 1]? = some (.string ps[j].2)
 | [], j, h => by simp at h
 | x :: ps, 0, h => ⟨rfl, rfl⟩
 | x :: ps, j + 1, h => by
  have := prC_get ps j (by simpa using h)
  rw [show (j + 1) * 2 = j * 2 + 1 + 1 by omega]
  exact this

def PrRow (w : World) (a : Option Addr) (ps : List (ByteArray × ByteArray)) : Prop := ∀ j (h : j < ps.length), ∃ g, a = some ⟨g, 0, none⟩ /\ g < w.heap.size /\ w.cell? ⟨g, j * 2, none⟩ = some (.string ps[j].1) /\ w.cell? ⟨g, j * 2 + 1, none⟩ = some (.string ps[j].2)

theorem PrRow.below {w w' : World} {a : Option Addr} {ps : List (ByteArray × ByteArray)} (h : PrRow w a ps) (hb : Below w.heap.size w w') : PrRow w' a ps := by
 intro j hj
 obtain ⟨g, e, hg, c1, c2⟩ := h j hj
 exact ⟨g, e, Nat.lt_of_lt_of_le hg hb.size, (hb.cell (p := ⟨g, j * 2, none⟩) hg).trans c1, (hb.cell (p := ⟨g, j * 2 + 1, none⟩) hg).trans c2⟩

theorem PrRow.of {w : World} {B : Nat} {a : Option Addr} {c : Nat} {ps : List (ByteArray × ByteArray)} (h : w.ownsRow B 157 2 (.slice a ps.length c) ps.length (prC ps)) : PrRow w a ps := by
 intro j hj
 rcases h.2 with ⟨_, h0⟩ | ⟨g, cap, cur, e, hg, hh, h3⟩
 ·omega
 ·cases e
  obtain ⟨p1, p2⟩ := prC_get ps j hj
  exact ⟨g, rfl, lt_of_heap hh, by rw [World.ownsRow.cellAt h (j * 2) (by omega)]; exact p1, by rw [World.ownsRow.cellAt h (j * 2 + 1) (by omega)]; exact p2⟩

theorem prs_more {w1 : World} {B : Nat} {v : Value} {ps : List (ByteArray × ByteArray)} {q : ByteArray × ByteArray} (h : w1.ownsRow B 157 2 v (ps.length + 1) (prC ps ++ [.string q.1, .string q.2])) : ∃ a c, v = .slice a (ps ++ [q]).length c /\ w1.ownsRow B 157 2 (.slice a (ps ++ [q]).length c) (ps ++ [q]).length (prC (ps ++ [q])) := by
 have e : (ps ++ [q]).length = ps.length + 1 := by rw [List.length_append]; rfl
 rw [e, prC_snoc]
 rcases h.2 with ⟨rfl, h0⟩ | ⟨g, cap, cur, rfl, h3⟩
 ·omega
 ·exact ⟨_, _, rfl, h⟩

noncomputable def hasP (ps : List (ByteArray × ByteArray)) (q : ByteArray × ByteArray) : Bool := open Classical in decide (q ∈ ps)

theorem hasP_t {ps : List (ByteArray × ByteArray)} {q : ByteArray × ByteArray} (h : q ∈ ps) : hasP ps q = true := by unfold hasP; simp [h]

theorem hasP_f {ps : List (ByteArray × ByteArray)} {q : ByteArray × ByteArray} (h : ¬ q ∈ ps) : hasP ps q = false := by unfold hasP; simp [h]

set_option maxRecDepth 4000 in
set_option maxHeartbeats 2000000 in
theorem cIndexP (a : Option Addr) (cap : Nat) (ps : List (ByteArray × ByteArray)) (m l : ByteArray) (w : World) (hR : PrRow w a ps) (hn : ps.length <= 1048576) :
  Calls Tryz.prog 170 #[.slice a ps.length cap, .agg #[.string m, .string l]] w fun e w' => ∃ r : Int, e = .returned (.int .i64 r) /\ decide (0 <= r) = hasP ps (m, l) /\ Below w.heap.size w w' := by
 obtain ⟨V, hV⟩ : ∃ V, hasP ps (m, l) = V := ⟨_, rfl⟩
 have HF : Hid (¬ (m, l) ∈ ps -> V = false) := fun h => by rw [<- hV]; exact hasP_f h
 have HT : Hid ((m, l) ∈ ps -> V = true) := fun h => by rw [<- hV]; exact hasP_t h
 rw [hV]
 clear hV
 have HR := hid hR
 have HB0 := hid ((Below.refl w.heap.size w).alloc (Nat.le_refl _) (.cells #[.string m, .string l] 157))
 have HX := hid (box_two w (.string m) (.string l) 157)
 clear hR
 obtain ⟨n, hnn⟩ : ∃ n, ps.length = n := ⟨_, rfl⟩
 have HN := hid hnn
 rw [hnn] at hn ⊢
 clear hnn
 go_enter Tryz.func170, Tryz.ntmps170
 go_wp2_with fail
 go_loopw [8] (fun k wr => ∃ i : Nat, k = .int .i64 (i : Int) /\ i <= n /\ Hid (¬ (m, l) ∈ ps.take i) /\ Hid (Below (w.heap.size + 1) (w.alloc (.cells #[.string m, .string l] 157)) wr)) (fun k _ => n - (intOf k).toNat)
 case atStart => exact ⟨0, rfl, Nat.zero_le _, by show ¬ _; simp, Below.refl _ _⟩
 case round =>
  obtain ⟨i, rfl, hi, HO, HB⟩ := hrel
  have k1 := (HB.out.cell (p := ⟨w.heap.size, 0, none⟩) (Nat.lt_succ_self _)).trans HX.out.1
  have k2 := (HB.out.cell (p := ⟨w.heap.size, 1, none⟩) (Nat.lt_succ_self _)).trans HX.out.2.1
  have HBw := hid (HB0.out.trans (HB.out.mono (Nat.le_succ _)))
  by_cases hlt : i < n
  ·have his : i < ps.length := by rw [HN.out]; exact hlt
   obtain ⟨g, rfl, hg, c1, c2⟩ := (HR.out.below HBw.out) i his
   have hin : (i : Int) < (n : Int) := by omega
   have hin0 : (0 : Int) <= (i : Int) := by omega
   have q1 := str_beq m ps[i].1
   have q2 := str_beq l ps[i].2
   have HTK := hid (take_snocN his)
   have HYES := hid (show m = ps[i].1 -> l = ps[i].2 -> V = true from fun e1 e2 => HT.out (by rw [e1, e2]; exact List.getElem_mem his))
   have HNO := hid (show ¬ (m = ps[i].1 /\ l = ps[i].2) -> ¬ (m, l) ∈ ps.take (i + 1) from fun h hm => by
    rw [HTK.out] at hm
    rcases List.mem_append.1 hm with h' | h'
    ·exact HO.out h'
    ·rw [List.mem_singleton] at h'
     exact h ⟨congrArg Prod.fst h', congrArg Prod.snd h'⟩)
   generalize ps[i].1 = m' at *
   generalize ps[i].2 = l' at *
   by_cases e1 : m = m'
   ·rw [decide_eq_true e1] at q1
    by_cases e2 : l = l'
    ·rw [decide_eq_true e2] at q2
     have HV := hid (HYES.out e1 e2)
     clear HNO HYES e1 e2
     go_wp2_with fail
     go_quiet (fail)
     go_wp2_with fail
     go_ret
     exact ⟨_, rfl, by rw [HV.out]; exact decide_eq_true hin0, below_drewN HBw.out _⟩
    ·rw [decide_eq_false e2] at q2
     have HN2 := hid (HNO.out (fun h => e2 h.2))
     clear HNO HYES e1 e2
     go_wp2_with fail
     go_quiet (fail)
     go_wp2_with fail
     go_roundw
     case rel => exact ⟨i + 1, by go_num, by omega, HN2.out, below_drewN HB.out _⟩
     case measure => simp [intOf]; omega
   ·rw [decide_eq_false e1] at q1
    have HN2 := hid (HNO.out (fun h => e1 h.1))
    clear HNO HYES e1 q2
    go_wp2_with fail
    go_quiet (fail)
    go_wp2_with fail
    go_roundw
    case rel => exact ⟨i + 1, by go_num, by omega, HN2.out, below_drewN HB.out _⟩
    case measure => simp [intOf]; omega
  ·have hie : i = n := by omega
   subst hie
   have HV := hid (HF.out (by
    have h := HO.out
    rw [List.take_of_length_le (by rw [HN.out]; exact Nat.le_refl _)] at h
    exact h))
   go_wp2_with fail
   go_ret
   exact ⟨_, rfl, by rw [HV.out]; rfl, HBw.out⟩

set_option maxHeartbeats 2000000 in
theorem cContainsP (a : Option Addr) (cap : Nat) (ps : List (ByteArray × ByteArray)) (m l : ByteArray) (w : World) (hR : PrRow w a ps) (hn : ps.length <= 1048576) :
  Calls Tryz.prog 156 #[.slice a ps.length cap, .agg #[.string m, .string l]] w fun e w' => e = .returned (.bool (hasP ps (m, l))) /\ Below w.heap.size w w' := by
 have HB0 := hid ((Below.refl w.heap.size w).alloc (Nat.le_refl _) (.cells #[.string m, .string l] 157))
 have C := hid (cIndexP a cap ps m l (w.alloc (.cells #[.string m, .string l] 157)) (hR.below HB0.out) hn)
 clear hR
 generalize hasP ps (m, l) = V at *
 generalize ps.length = n at *
 go_enter Tryz.func156, Tryz.ntmps156
 go_wp2_with fail
 refine C.out.mono ?_
 rintro e w1 ⟨r, rfl, hr, hb1⟩
 have HB1 := hid (bb HB0.out hb1)
 clear hb1 C
 go_wp2_with fail
 go_ret
 exact ⟨rfl, HB1.out⟩

end Go.Proofs.YtlpbbkaelbafdaaGreatDoor
