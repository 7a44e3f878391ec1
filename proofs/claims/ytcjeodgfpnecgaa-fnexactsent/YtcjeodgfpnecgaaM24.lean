/- Contracts of isText, tokenOf and besideText of the program. Contracts of copiedAttrs, copiedToken and closings of the program. -/
import Derived.Test.YtcjeodgfpnecgaaM20
import Derived.Test.YtcjeodgfpnecgaaM23
import Derived.Test.YtcjeodgfpnecgaaM2
import Derived.Test.YtcjeodgfpnecgaaM22
import Derived.Test.YtcjeodgfpnecgaaM15
import Derived.Test.YtcjeodgfpnecgaaM8
import Derived.Deep.RegionHeld3
namespace Go.Proofs.Ytcjeodgfpnecgaa
open Go.RowKit
set_option linter.unusedVariables false
set_option linter.unusedSimpArgs false

set_option maxHeartbeats 1000000 in
theorem cIsText (k : Int) (nm : ByteArray) (a : Option Addr) (n cap : Nat) (tx : ByteArray) (w : World) (hz : nm.size ≤ 1048576) :
    Calls Try.prog 43 #[.agg #[.int .i64 k, .string nm, .slice a n cap, .string tx]] w fun e w' => e = .returned (.bool (decide (nm.size = 0))) ∧ Below w.heap.size w w' := by
  have HB0 := hid ((Below.refl w.heap.size w).alloc (Nat.le_refl _) (.cells #[.int .i64 k, .string nm, .slice a n cap, .string tx] 36))
  have E := empty_is nm
  generalize decide (nm.size = 0) = D at *
  go_enter Try.func43, Try.ntmps43
  go_wp2
  go_ret
  exact ⟨rfl, HB0.out⟩

theorem heap_two (w : World) (o1 o2 : Obj) : ((w.alloc o1).alloc o2).heap[w.heap.size + 1]? = some o2 := by
  have h := heap_alloc_new (w.alloc o1) o2
  rw [show (w.alloc o1).heap.size = w.heap.size + 1 by simp] at h
  exact h

set_option maxHeartbeats 2000000 in
theorem cTokenOf (t : Tk) (a : Option Addr) (cap : Nat) (w : World) (hz : TkSz 1048576 t) :
    Calls Try.prog 42 #[tkV t a cap] w fun e w' => e = .returned (tkV (tokOfN t) a cap) ∧ Below w.heap.size w w' := by
  obtain ⟨k, nm, l, tx⟩ := t
  have C := hid (fun wx => cIsText k nm a l.length cap tx wx hz.1)
  have HB0 := hid (((Below.refl w.heap.size w).alloc (Nat.le_refl _) (.cells #[.int .i64 k, .string nm, .slice a l.length cap, .string tx] 36)).alloc (by simp) (.cells #[.int .i64 0, .string ⟨#[]⟩, .slice none 0 0, .string ⟨#[]⟩] 50))
  have M0 := hid (blk_alloc (heap_alloc_new w (.cells #[.int .i64 k, .string nm, .slice a l.length cap, .string tx] 36)) (.cells #[.int .i64 0, .string ⟨#[]⟩, .slice none 0 0, .string ⟨#[]⟩] 50))
  have M1 := hid (heap_two w (.cells #[.int .i64 k, .string nm, .slice a l.length cap, .string tx] 36) (.cells #[.int .i64 0, .string ⟨#[]⟩, .slice none 0 0, .string ⟨#[]⟩] 50))
  simp only [tkV]
  by_cases q : nm.size = 0
  · have e1 : tokOfN ⟨k, nm, l, tx⟩ = ⟨3, ⟨#[]⟩, l, tx⟩ := by unfold tokOfN; exact if_pos q
    rw [e1]
    rw [decide_eq_true q] at C
    generalize l.length = n at *
    clear e1 hz
    go_enter Try.func42, Try.ntmps42
    go_wp2_with fail
    refine (C.out _).mono ?_
    rintro e w1 ⟨rfl, hb1⟩
    have HB1 := hid (bb HB0.out hb1)
    obtain ⟨⟨x0, x1, x2, x3⟩, _⟩ := box4 (blk_below M0.out hb1)
    obtain ⟨⟨y0, y1, y2, y3⟩, f0, f1, f2, f3⟩ := box4 (blk_below M1.out hb1)
    clear hb1
    go_wp2_with fail
    refine bodyPost_ret (v := .agg #[.int .i64 3, .string ⟨#[]⟩, .slice a n cap, .string tx]) (by simp [results, Try.results42, go_sem, y0, y1, y2, y3]) rfl ⟨rfl, ?_⟩
    iterate 4 refine Below.setCell ?_ (Nat.le_succ _) _
    exact HB1.out
  · have e1 : tokOfN ⟨k, nm, l, tx⟩ = ⟨1, nm, l, tx⟩ := by unfold tokOfN; exact if_neg q
    rw [e1]
    rw [decide_eq_false q] at C
    generalize l.length = n at *
    clear e1 hz
    go_enter Try.func42, Try.ntmps42
    go_wp2_with fail
    refine (C.out _).mono ?_
    rintro e w1 ⟨rfl, hb1⟩
    have HB1 := hid (bb HB0.out hb1)
    obtain ⟨⟨x0, x1, x2, x3⟩, _⟩ := box4 (blk_below M0.out hb1)
    obtain ⟨⟨y0, y1, y2, y3⟩, f0, f1, f2, f3⟩ := box4 (blk_below M1.out hb1)
    clear hb1
    go_wp2_with fail
    refine bodyPost_ret (v := .agg #[.int .i64 1, .string nm, .slice a n cap, .string tx]) (by simp [results, Try.results42, go_sem, y0, y1, y2, y3]) rfl ⟨rfl, ?_⟩
    iterate 4 refine Below.setCell ?_ (Nat.le_succ _) _
    exact HB1.out

set_option maxRecDepth 8000 in
set_option maxHeartbeats 4000000 in
theorem cBeside (a : Option Addr) (cap : Nat) (ts : List Tk) (i : Nat) (w : World) (hR : TkRow w a ts) (hi : i < ts.length) (hn : ts.length ≤ 1048576) (hz : TksSz 1048576 ts) :
    Calls Try.prog 62 #[.slice a ts.length cap, .int .i64 (i : Int)] w fun e w' => e = .returned (.bool (twinB ts i)) ∧ Below w.heap.size w w' := by
  obtain ⟨V, hV⟩ : ∃ V, twinB ts i = V := ⟨_, rfl⟩
  have HV := hid hV
  rw [hV]
  have HF : Hid (¬ TwinAt ts i → V = false) := fun h => by rw [← HV.out]; exact twinB_f h
  have HT : Hid (TwinAt ts i → V = true) := fun h => by rw [← HV.out]; exact twinB_t h
  clear hV HV
  by_cases h0 : i = 0
  case pos =>
    have HW := hid (HF.out (fun h => by obtain ⟨_, h', _⟩ := h; omega))
    subst h0
    have HNB := hid (bw_any w)
    clear hR hz
    generalize ts.length = n at *
    go_enter Try.func62, Try.ntmps62
    go_wp2_with fail
    haveI := HNB.out
    refine wp_region_below (by kernel_rfl) (by kernel_rfl) (Below.refl w.heap.size w) ?_
    repeat (go_big_quiet_step (fail))
    refine wpQuiet_nil ?_
    intro w2 hw'
    obtain ⟨⟨wx, hb2⟩, hw''⟩ := hw'
    subst hw''
    have HB2 := hid hb2
    clear hb2 this HNB
    go_wp2_with fail
    go_ret
    exact ⟨by rw [HW.out]; rfl, HB2.out⟩
  obtain ⟨j, hij⟩ : ∃ j, i = j + 1 := ⟨i - 1, by omega⟩
  have hjl : j < ts.length := by omega
  have hd : decide (0 < i) = true := decide_eq_true (by omega)
  have hj : (i : Int) - 1 = (j : Int) := by omega
  have hji : ¬ (i : Int) < 1 := by omega
  obtain ⟨b, o, aa, ca, rfl, hb, c0, c1, c2, c3, cr⟩ := hR i hi
  obtain ⟨b', o', aj, cj, e', _, k0, k1, k2, k3, kr⟩ := hR j hjl
  obtain ⟨rfl, rfl⟩ : b = b' ∧ o = o' := by cases e'; exact ⟨rfl, rfl⟩
  have HTI := hid (show TwinAt ts i ↔ ts[i].name.size = 0 ∧ ts[j].name.size = 0 ∧ ts[j].kind = ts[i].kind by
    subst hij
    constructor
    · rintro ⟨h1, h2, h3, h4, h5⟩
      exact ⟨h3, h4, h5⟩
    · rintro ⟨h3, h4, h5⟩
      exact ⟨hi, by omega, h3, h4, h5⟩)
  obtain ⟨d0, d1, d2, d3⟩ := quad_bw hb c0 c1 c2 c3
  obtain ⟨j0, j1, j2, j3⟩ := quad_bw hb k0 k1 k2 k3
  have CI := hid (fun p : BW w => cIsText ts[i].kind ts[i].name aa ts[i].attrs.length ca ts[i].text p.w (hz _ (List.getElem_mem hi)).1)
  have CJ := hid (fun p : BW w => cIsText ts[j].kind ts[j].name aj ts[j].attrs.length cj ts[j].text p.w (hz _ (List.getElem_mem hjl)).1)
  have z1 := (hz _ (List.getElem_mem hi)).1
  have z2 := (hz _ (List.getElem_mem hjl)).1
  have hin : (i : Int) < (ts.length : Int) := by omega
  have hjn : (j : Int) < (ts.length : Int) := by omega
  have HIJ := hid hij
  have HNB := hid (bw_any w)
  clear e' c0 c1 c2 c3 k0 k1 k2 k3 hR hz hij h0 cr kr
  generalize ts[i].kind = ki at *
  generalize ts[i].name = ni at *
  generalize ts[i].attrs.length = li at *
  generalize ts[i].text = xi at *
  generalize ts[j].kind = kj at *
  generalize ts[j].name = nj at *
  generalize ts[j].attrs.length = lj at *
  generalize ts[j].text = xj at *
  generalize ts.length = n at *
  by_cases q1 : ni.size = 0
  case neg =>
    have HW := hid (HF.out (fun h => q1 (HTI.out.1 h).1))
    rw [decide_eq_false q1] at CI
    clear q1 HTI
    go_enter Try.func62, Try.ntmps62
    go_wp2_with fail
    haveI := HNB.out
    refine wp_region_below (by kernel_rfl) (by kernel_rfl) (Below.refl w.heap.size w) ?_
    repeat (go_big_quiet_step ((go_at_call 43; first | exact calls_bw _ (CI.out _) | exact calls_bw _ (CJ.out _))))
    refine wpQuiet_nil ?_
    intro w2 hw'
    obtain ⟨⟨wx, hb2⟩, hw''⟩ := hw'
    subst hw''
    have HB2 := hid hb2
    clear hb2 this HNB
    go_wp2_with fail
    go_ret
    exact ⟨by rw [HW.out]; rfl, HB2.out⟩
  by_cases q2 : nj.size = 0
  case neg =>
    have HW := hid (HF.out (fun h => q2 (HTI.out.1 h).2.1))
    rw [decide_eq_true q1] at CI
    rw [decide_eq_false q2] at CJ
    clear q1 q2 HTI
    go_enter Try.func62, Try.ntmps62
    go_wp2_with fail
    haveI := HNB.out
    refine wp_region_below (by kernel_rfl) (by kernel_rfl) (Below.refl w.heap.size w) ?_
    repeat (go_big_quiet_step ((go_at_call 43; first | exact calls_bw _ (CI.out _) | exact calls_bw _ (CJ.out _))))
    refine wpQuiet_nil ?_
    intro w2 hw'
    obtain ⟨⟨wx, hb2⟩, hw''⟩ := hw'
    subst hw''
    have HB2 := hid hb2
    clear hb2 this HNB
    go_wp2_with fail
    go_ret
    exact ⟨by rw [HW.out]; rfl, HB2.out⟩
  by_cases q3 : kj = ki
  case neg =>
    have HW := hid (HF.out (fun h => q3 (HTI.out.1 h).2.2))
    have hq3 : (ki == kj) = false := by simp; omega
    rw [decide_eq_true q1] at CI
    rw [decide_eq_true q2] at CJ
    clear q1 q2 q3 HTI
    go_enter Try.func62, Try.ntmps62
    go_wp2_with fail
    haveI := HNB.out
    refine wp_region_below (by kernel_rfl) (by kernel_rfl) (Below.refl w.heap.size w) ?_
    repeat (go_big_quiet_step ((go_at_call 43; first | exact calls_bw _ (CI.out _) | exact calls_bw _ (CJ.out _))))
    refine wpQuiet_nil ?_
    intro w2 hw'
    obtain ⟨⟨wx, hb2⟩, hw''⟩ := hw'
    subst hw''
    have HB2 := hid hb2
    clear hb2 this HNB
    go_wp2_with fail
    go_ret
    exact ⟨by rw [HW.out]; rfl, HB2.out⟩
  case pos =>
    have HW := hid (HT.out (HTI.out.2 ⟨q1, q2, q3⟩))
    have hq3 : (ki == kj) = true := by simp; omega
    rw [decide_eq_true q1] at CI
    rw [decide_eq_true q2] at CJ
    clear q1 q2 q3 HTI
    go_enter Try.func62, Try.ntmps62
    go_wp2_with fail
    haveI := HNB.out
    refine wp_region_below (by kernel_rfl) (by kernel_rfl) (Below.refl w.heap.size w) ?_
    repeat (go_big_quiet_step ((go_at_call 43; first | exact calls_bw _ (CI.out _) | exact calls_bw _ (CJ.out _))))
    refine wpQuiet_nil ?_
    intro w2 hw'
    obtain ⟨⟨wx, hb2⟩, hw''⟩ := hw'
    subst hw''
    have HB2 := hid hb2
    clear hb2 this HNB
    go_wp2_with fail
    go_ret
    exact ⟨by rw [HW.out]; rfl, HB2.out⟩

end Go.Proofs.Ytcjeodgfpnecgaa

namespace Go.Proofs.Ytcjeodgfpnecgaa
open Go.RowKit
set_option linter.unusedVariables false
set_option linter.unusedSimpArgs false

theorem own_ats {w : World} {B : Nat} {v : Value} {n : Nat} {l : List At} (h : w.ownsRow B 72 2 v n (atC l)) (hn : l.length = n) : ∃ a c, v = .slice a n c ∧ OwnAts w B a l := by
  rcases h.2 with ⟨rfl, rfl⟩ | ⟨g, cp, cur, rfl, hg, hh, hn', hc, hs, ht⟩
  · exact ⟨none, 0, rfl, fun hl => by omega⟩
  · refine ⟨_, cp, rfl, fun _ => ⟨g, 0, cur, rfl, hg, hh, fun j hj => ?_⟩⟩
    obtain ⟨g1, g2⟩ := atC_get l j hj
    rw [← ht, List.getElem?_take] at g1 g2
    refine ⟨?_, ?_⟩
    · rw [Nat.zero_add, ← Array.getElem?_toList]
      split at g1
      · exact g1
      · cases g1
    · rw [Nat.zero_add, ← Array.getElem?_toList]
      split at g2
      · exact g2
      · cases g2

set_option maxRecDepth 8000 in
set_option maxHeartbeats 8000000 in
theorem cCopiedAttrs (a : Option Addr) (cap : Nat) (l : List At) (w : World) (hR : AtRow w a l) (hz : AtSz 1048576 l) (hn : l.length ≤ 1048576) :
    Calls Try.prog 67 #[.slice a l.length cap] w fun e w' => ∃ a' c', e = .returned (.slice a' l.length c') ∧ OwnAts w' w.heap.size a' l ∧ Below w.heap.size w w' := by
  obtain ⟨i0, hi, hz0, hz1, hz2⟩ := info_parts infoAtW
  have HI := hid (And.intro hi (And.intro hz0 (And.intro hz1 hz2)))
  have HR := hid hR
  have HZ := hid hz
  clear hR hz hi hz0 hz1 hz2
  obtain ⟨n, hnn⟩ : ∃ n, l.length = n := ⟨_, rfl⟩
  have HN := hid hnn
  rw [hnn] at hn ⊢
  clear hnn
  go_enter Try.func67, Try.ntmps67
  go_wp2_with fail
  go_loopw [3, 8] (fun v k wr => ∃ i : Nat, k = .int .i64 (i : Int) ∧ i ≤ n ∧ Hid (wr.ownsRow w.heap.size 72 2 v i (atC (l.take i))) ∧ Hid (Below w.heap.size w wr)) (fun _ k _ => n - (intOf k).toNat)
  case atStart => exact ⟨0, rfl, Nat.zero_le _, World.ownsRow_nil _ _ _ _, Below.refl _ _⟩
  case round =>
    obtain ⟨i, rfl, hin, HO, HB⟩ := hrel
    by_cases hlt : i < n
    case neg =>
      have hie : i = n := by omega
      subst hie
      have HO2 := HO.out
      rw [List.take_of_length_le (by rw [HN.out]; exact Nat.le_refl _)] at HO2
      obtain ⟨a', c', hv, hoa⟩ := own_ats HO2 HN.out
      have HOA := hid hoa
      subst hv
      clear HO2 hoa
      go_wp2_with fail
      go_ret
      exact ⟨_, _, rfl, HOA.out, HB.out⟩
    have his : i < l.length := by rw [HN.out]; exact hlt
    have hinn : (i : Int) < (n : Int) := by omega
    obtain ⟨b, o, rfl, hb, c1, c2⟩ := (HR.out.below HB.out) i his
    obtain ⟨z1, z2⟩ := HZ.out _ (List.getElem_mem his)
    have HX := hid (show atC (l.take (i + 1)) = atC (l.take i) ++ [.string l[i].name, .string l[i].value] by rw [take_snocN his, atC_app]; rfl)
    have CX := hid (fun w => c_strings_Clone l[i].name w z1)
    have CY := hid (fun w => c_strings_Clone l[i].value w z2)
    generalize l[i].name = x at *
    generalize l[i].value = y at *
    clear z1 z2
    have M := hid (heap_alloc_new wr (.cells #[.string x, .string y] 72))
    have HB0 := hid (HB.out.alloc HB.out.size (.cells #[.string x, .string y] 72))
    have HO0 := hid (HO.out.alloc (.cells #[.string x, .string y] 72))
    have HVL := hid (fun k e => (HO.out.lt k e).2)
    have hws := HB.out.size
    obtain ⟨a5, c5, hv5⟩ := own_len HO.out
    obtain ⟨g, hg⟩ : ∃ g, wr.heap.size = g := ⟨_, rfl⟩
    have Hg := hid hg
    subst hv5
    clear HO
    go_wp2_with fail
    obtain ⟨W0, hW0⟩ : ∃ W0, wr.alloc (.cells #[.string x, .string y] 72) = W0 := ⟨_, rfl⟩
    rw [hW0] at M HB0 HO0
    simp only [hW0, hg] at M ⊢
    have HBc := hid ((Below.refl W0.heap.size W0).drew)
    have hgl := hid (lt_of_heap M.out)
    have hk := hid (box2c M.out)
    have HON := hid (show ∀ u ∈ [Value.string x, Value.string y], u.oneCell' = true by
      intro u hu
      simp at hu
      rcases hu with rfl | rfl <;> rfl)
    clear c1 c2 hW0
    rw [hg] at HVL hws
    obtain ⟨hi, hz0, hz1, hz2⟩ := HI.out
    go_region_held3 (fun w' => w'.cell? ⟨g, 0, none⟩ = some (.string x) ∧ w'.cell? ⟨g, 1, none⟩ = some (.string y)) (first | exact HK.out | exact ⟨(HBc.out.cell (p := ⟨g, 0, none⟩) hgl.out).trans hk.out.1, (HBc.out.cell (p := ⟨g, 1, none⟩) hgl.out).trans hk.out.2⟩ | go_keep)
      (first
        | (go_at_call 64; refine (CX.out _).mono ?_; rintro e w1 ⟨rfl, hb1⟩; replace HBc := hid (bb HBc.out hb1); clear hb1)
        | (go_at_call 64; refine (CY.out _).mono ?_; rintro e w1 ⟨rfl, hb1⟩; replace HBc := hid (bb HBc.out hb1); clear hb1)
        | (refine step_app_at rfl (.tmp 12) (.tmp 20) 34 rfl w.heap.size 72 i0 _ 2 32 Try.underlying34 hi hz0 hz1 hz2 rfl (by decide) (.slice a5 i c5) i (atC (l.take i)) (by simp [Act.eval, Act.put]) ((ownsRow_below HO0.out HBc.out).alloc _) ⟨_, 0, none⟩ 1 1 [.string x, .string y] (by simp [Act.eval, Act.put]) rfl (two_cells _ _ _ _) HON.out (by unfold maxLen; omega) (by omega) (by simp; have := HBc.out.size; have := hgl.out; omega) ?_; intro v' w2 hown' hgrow hv'; have HBd := hid (bb HBc.out ((Below.refl _ _).alloc (Nat.le_refl _) (.cells #[.string x, .string y] 72))); have HK := hid (And.intro (cell_grownR hgrow ((HBd.out.cell (p := ⟨g, 0, none⟩) hgl.out).trans hk.out.1) (Nat.lt_of_lt_of_le hgl.out HBd.out.size) (fun e => by (have := HVL.out _ e; omega))) (cell_grownR hgrow ((HBd.out.cell (p := ⟨g, 1, none⟩) hgl.out).trans hk.out.2) (Nat.lt_of_lt_of_le hgl.out HBd.out.size) (fun e => by (have := HVL.out _ e; omega))))))
    have HO2 := hid (show w2.ownsRow w.heap.size 72 2 v' (i + 1) (atC (l.take (i + 1))) by rw [HX.out]; exact hown')
    have HB2 := hid ((bb HB0.out HBd.out).grown hgrow (by have := (bb HB0.out HBd.out).size; exact this) (fun k e => ((ownsRow_below HO0.out HBc.out).lt k e).1))
    obtain ⟨a6, c6, hv6⟩ := own_len hown'
    subst hv6
    clear hown' hgrow hv' HK HBd
    go_wp2_with fail
    go_roundw
    case rel => exact ⟨i + 1, by go_num, by omega, HO2.out, HB2.out⟩
    case measure => simp [intOf]; omega

end Go.Proofs.Ytcjeodgfpnecgaa
