/- Contracts of isText, tokenOf and besideText of the program. -/
import Derived.Test.YtlghhemmmjahnaaWPileM
import Derived.Test.YtlghhemmmjahnaaNImplT
import Derived.Test.YtlghhemmmjahnaaPQuiet
namespace Go.Proofs.Ytlghhemmmjahnaa
open Go.RowKit
set_option linter.unusedVariables false
set_option linter.unusedSimpArgs false

set_option maxHeartbeats 1000000 in
theorem cIsText (k : Int) (nm : ByteArray) (a : Option Addr) (n cap : Nat) (tx : ByteArray) (w : World) (hz : nm.size ≤ 1048576) :
    Calls Try.prog 34 #[.agg #[.int .i64 k, .string nm, .slice a n cap, .string tx]] w fun e w' => e = .returned (.bool (decide (nm.size = 0))) ∧ Below w.heap.size w w' := by
  have HB0 := hid ((Below.refl w.heap.size w).alloc (Nat.le_refl _) (.cells #[.int .i64 k, .string nm, .slice a n cap, .string tx] 36))
  have E := empty_is nm
  generalize decide (nm.size = 0) = D at *
  go_enter Try.func34, Try.ntmps34
  go_wp2
  go_ret
  exact ⟨rfl, HB0.out⟩

theorem heap_two (w : World) (o1 o2 : Obj) : ((w.alloc o1).alloc o2).heap[w.heap.size + 1]? = some o2 := by
  have h := heap_alloc_new (w.alloc o1) o2
  rw [show (w.alloc o1).heap.size = w.heap.size + 1 by simp] at h
  exact h

set_option maxHeartbeats 2000000 in
theorem cTokenOf (t : Tk) (a : Option Addr) (cap : Nat) (w : World) (hz : TkSz 1048576 t) :
    Calls Try.prog 60 #[tkV t a cap] w fun e w' => e = .returned (tkV (tokOfN t) a cap) ∧ Below w.heap.size w w' := by
  obtain ⟨k, nm, l, tx⟩ := t
  have C := hid (fun wx => cIsText k nm a l.length cap tx wx hz.1)
  have HB0 := hid (((Below.refl w.heap.size w).alloc (Nat.le_refl _) (.cells #[.int .i64 k, .string nm, .slice a l.length cap, .string tx] 36)).alloc (by simp) (.cells #[.int .i64 0, .string ⟨#[]⟩, .slice none 0 0, .string ⟨#[]⟩] 92))
  have M0 := hid (blk_alloc (heap_alloc_new w (.cells #[.int .i64 k, .string nm, .slice a l.length cap, .string tx] 36)) (.cells #[.int .i64 0, .string ⟨#[]⟩, .slice none 0 0, .string ⟨#[]⟩] 92))
  have M1 := hid (heap_two w (.cells #[.int .i64 k, .string nm, .slice a l.length cap, .string tx] 36) (.cells #[.int .i64 0, .string ⟨#[]⟩, .slice none 0 0, .string ⟨#[]⟩] 92))
  simp only [tkV]
  by_cases q : nm.size = 0
  · have e1 : tokOfN ⟨k, nm, l, tx⟩ = ⟨3, ⟨#[]⟩, l, tx⟩ := by unfold tokOfN; exact if_pos q
    rw [e1]
    rw [decide_eq_true q] at C
    generalize l.length = n at *
    clear e1 hz
    go_enter Try.func60, Try.ntmps60
    go_wp2_with fail
    refine (C.out _).mono ?_
    rintro e w1 ⟨rfl, hb1⟩
    have HB1 := hid (bb HB0.out hb1)
    obtain ⟨⟨x0, x1, x2, x3⟩, _⟩ := box4 (blk_below M0.out hb1)
    obtain ⟨⟨y0, y1, y2, y3⟩, f0, f1, f2, f3⟩ := box4 (blk_below M1.out hb1)
    clear hb1
    go_wp2_with fail
    refine bodyPost_ret (v := .agg #[.int .i64 3, .string ⟨#[]⟩, .slice a n cap, .string tx]) (by simp [results, Try.results60, go_sem, y0, y1, y2, y3]) rfl ⟨rfl, ?_⟩
    iterate 4 refine Below.setCell ?_ (Nat.le_succ _) _
    exact HB1.out
  · have e1 : tokOfN ⟨k, nm, l, tx⟩ = ⟨1, nm, l, tx⟩ := by unfold tokOfN; exact if_neg q
    rw [e1]
    rw [decide_eq_false q] at C
    generalize l.length = n at *
    clear e1 hz
    go_enter Try.func60, Try.ntmps60
    go_wp2_with fail
    refine (C.out _).mono ?_
    rintro e w1 ⟨rfl, hb1⟩
    have HB1 := hid (bb HB0.out hb1)
    obtain ⟨⟨x0, x1, x2, x3⟩, _⟩ := box4 (blk_below M0.out hb1)
    obtain ⟨⟨y0, y1, y2, y3⟩, f0, f1, f2, f3⟩ := box4 (blk_below M1.out hb1)
    clear hb1
    go_wp2_with fail
    refine bodyPost_ret (v := .agg #[.int .i64 1, .string nm, .slice a n cap, .string tx]) (by simp [results, Try.results60, go_sem, y0, y1, y2, y3]) rfl ⟨rfl, ?_⟩
    iterate 4 refine Below.setCell ?_ (Nat.le_succ _) _
    exact HB1.out

set_option maxRecDepth 8000 in
set_option maxHeartbeats 4000000 in
theorem cBeside (a : Option Addr) (cap : Nat) (ts : List Tk) (i : Nat) (w : World) (hR : TkRow w a ts) (hi : i < ts.length) (hn : ts.length ≤ 1048576) (hz : TksSz 1048576 ts) :
    Calls Try.prog 61 #[.slice a ts.length cap, .int .i64 (i : Int)] w fun e w' => e = .returned (.bool (twinB ts i)) ∧ Below w.heap.size w w' := by
  obtain ⟨V, hV⟩ : ∃ V, twinB ts i = V := ⟨_, rfl⟩
  have HV := hid hV
  rw [hV]
  have HF : Hid (¬ TwinAt ts i → V = false) := fun h => by rw [← HV.out]; exact twinB_f h
  have HT : Hid (TwinAt ts i → V = true) := fun h => by rw [← HV.out]; exact twinB_t h
  clear hV HV
  by_cases h0 : i = 0
  case pos =>
    have HW := hid (HF.out (fun h => by obtain ⟨_, h', _⟩ := h; omega))
    subst h0
    have HNB := hid (bw_any w)
    clear hR hz
    generalize ts.length = n at *
    go_enter Try.func61, Try.ntmps61
    go_wp2_with fail
    haveI := HNB.out
    refine wp_region_below (by kernel_rfl) (by kernel_rfl) (Below.refl w.heap.size w) ?_
    repeat (go_big_quiet_step (fail))
    refine wpQuiet_nil ?_
    intro w2 hw'
    obtain ⟨⟨wx, hb2⟩, hw''⟩ := hw'
    subst hw''
    have HB2 := hid hb2
    clear hb2 this HNB
    go_wp2_with fail
    go_ret
    exact ⟨by rw [HW.out]; rfl, HB2.out⟩
  obtain ⟨j, hij⟩ : ∃ j, i = j + 1 := ⟨i - 1, by omega⟩
  have hjl : j < ts.length := by omega
  have hd : decide (0 < i) = true := decide_eq_true (by omega)
  have hj : (i : Int) - 1 = (j : Int) := by omega
  have hji : ¬ (i : Int) < 1 := by omega
  obtain ⟨b, o, aa, ca, rfl, hb, c0, c1, c2, c3, cr⟩ := hR i hi
  obtain ⟨b', o', aj, cj, e', _, k0, k1, k2, k3, kr⟩ := hR j hjl
  obtain ⟨rfl, rfl⟩ : b = b' ∧ o = o' := by cases e'; exact ⟨rfl, rfl⟩
  have HTI := hid (show TwinAt ts i ↔ ts[i].name.size = 0 ∧ ts[j].name.size = 0 ∧ ts[j].kind = ts[i].kind by
    subst hij
    constructor
    · rintro ⟨h1, h2, h3, h4, h5⟩
      exact ⟨h3, h4, h5⟩
    · rintro ⟨h3, h4, h5⟩
      exact ⟨hi, by omega, h3, h4, h5⟩)
  obtain ⟨d0, d1, d2, d3⟩ := quad_bw hb c0 c1 c2 c3
  obtain ⟨j0, j1, j2, j3⟩ := quad_bw hb k0 k1 k2 k3
  have CI := hid (fun p : BW w => cIsText ts[i].kind ts[i].name aa ts[i].attrs.length ca ts[i].text p.w (hz _ (List.getElem_mem hi)).1)
  have CJ := hid (fun p : BW w => cIsText ts[j].kind ts[j].name aj ts[j].attrs.length cj ts[j].text p.w (hz _ (List.getElem_mem hjl)).1)
  have z1 := (hz _ (List.getElem_mem hi)).1
  have z2 := (hz _ (List.getElem_mem hjl)).1
  have hin : (i : Int) < (ts.length : Int) := by omega
  have hjn : (j : Int) < (ts.length : Int) := by omega
  have HIJ := hid hij
  have HNB := hid (bw_any w)
  clear e' c0 c1 c2 c3 k0 k1 k2 k3 hR hz hij h0 cr kr
  generalize ts[i].kind = ki at *
  generalize ts[i].name = ni at *
  generalize ts[i].attrs.length = li at *
  generalize ts[i].text = xi at *
  generalize ts[j].kind = kj at *
  generalize ts[j].name = nj at *
  generalize ts[j].attrs.length = lj at *
  generalize ts[j].text = xj at *
  generalize ts.length = n at *
  by_cases q1 : ni.size = 0
  case neg =>
    have HW := hid (HF.out (fun h => q1 (HTI.out.1 h).1))
    rw [decide_eq_false q1] at CI
    clear q1 HTI
    go_enter Try.func61, Try.ntmps61
    go_wp2_with fail
    haveI := HNB.out
    refine wp_region_below (by kernel_rfl) (by kernel_rfl) (Below.refl w.heap.size w) ?_
    repeat (go_big_quiet_step ((go_at_call 34; first | exact calls_bw _ (CI.out _) | exact calls_bw _ (CJ.out _))))
    refine wpQuiet_nil ?_
    intro w2 hw'
    obtain ⟨⟨wx, hb2⟩, hw''⟩ := hw'
    subst hw''
    have HB2 := hid hb2
    clear hb2 this HNB
    go_wp2_with fail
    go_ret
    exact ⟨by rw [HW.out]; rfl, HB2.out⟩
  by_cases q2 : nj.size = 0
  case neg =>
    have HW := hid (HF.out (fun h => q2 (HTI.out.1 h).2.1))
    rw [decide_eq_true q1] at CI
    rw [decide_eq_false q2] at CJ
    clear q1 q2 HTI
    go_enter Try.func61, Try.ntmps61
    go_wp2_with fail
    haveI := HNB.out
    refine wp_region_below (by kernel_rfl) (by kernel_rfl) (Below.refl w.heap.size w) ?_
    repeat (go_big_quiet_step ((go_at_call 34; first | exact calls_bw _ (CI.out _) | exact calls_bw _ (CJ.out _))))
    refine wpQuiet_nil ?_
    intro w2 hw'
    obtain ⟨⟨wx, hb2⟩, hw''⟩ := hw'
    subst hw''
    have HB2 := hid hb2
    clear hb2 this HNB
    go_wp2_with fail
    go_ret
    exact ⟨by rw [HW.out]; rfl, HB2.out⟩
  by_cases q3 : kj = ki
  case neg =>
    have HW := hid (HF.out (fun h => q3 (HTI.out.1 h).2.2))
    have hq3 : (ki == kj) = false := by simp; omega
    rw [decide_eq_true q1] at CI
    rw [decide_eq_true q2] at CJ
    clear q1 q2 q3 HTI
    go_enter Try.func61, Try.ntmps61
    go_wp2_with fail
    haveI := HNB.out
    refine wp_region_below (by kernel_rfl) (by kernel_rfl) (Below.refl w.heap.size w) ?_
    repeat (go_big_quiet_step ((go_at_call 34; first | exact calls_bw _ (CI.out _) | exact calls_bw _ (CJ.out _))))
    refine wpQuiet_nil ?_
    intro w2 hw'
    obtain ⟨⟨wx, hb2⟩, hw''⟩ := hw'
    subst hw''
    have HB2 := hid hb2
    clear hb2 this HNB
    go_wp2_with fail
    go_ret
    exact ⟨by rw [HW.out]; rfl, HB2.out⟩
  case pos =>
    have HW := hid (HT.out (HTI.out.2 ⟨q1, q2, q3⟩))
    have hq3 : (ki == kj) = true := by simp; omega
    rw [decide_eq_true q1] at CI
    rw [decide_eq_true q2] at CJ
    clear q1 q2 q3 HTI
    go_enter Try.func61, Try.ntmps61
    go_wp2_with fail
    haveI := HNB.out
    refine wp_region_below (by kernel_rfl) (by kernel_rfl) (Below.refl w.heap.size w) ?_
    repeat (go_big_quiet_step ((go_at_call 34; first | exact calls_bw _ (CI.out _) | exact calls_bw _ (CJ.out _))))
    refine wpQuiet_nil ?_
    intro w2 hw'
    obtain ⟨⟨wx, hb2⟩, hw''⟩ := hw'
    subst hw''
    have HB2 := hid hb2
    clear hb2 this HNB
    go_wp2_with fail
    go_ret
    exact ⟨by rw [HW.out]; rfl, HB2.out⟩

end Go.Proofs.Ytlghhemmmjahnaa
