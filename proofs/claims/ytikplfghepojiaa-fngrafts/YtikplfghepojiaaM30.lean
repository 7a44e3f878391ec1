/- The road of FnGrafts. -/
import Derived.Test.YtikplfghepojiaaM28
import Derived.Test.YtikplfghepojiaaM29
namespace Go.Proofs.Ytikplfghepojiaa
open Go.RowKit
set_option linter.unusedVariables false
set_option linter.unusedSimpArgs false

theorem elemG {ts : List Tk} {k : Nat} {t : Tk} (hT : TreeP ts) (h : ts[k]? = some t) (hne : ¬ t.name.size = 0) : elemB ts (k : Int) = true := by
  have hk : k < ts.length := by
    rcases Nat.lt_or_ge k ts.length with h' | h'
    · exact h'
    · rw [List.getElem?_eq_none h'] at h; cases h
  unfold elemB
  rw [hasB_of hT hk]
  show (true && !decide ((nameI ts k).size = 0)) = true
  unfold nameI
  rw [h]
  simp only
  rw [decide_eq_false hne]
  rfl

theorem elemG_name {ts : List Tk} {k : Nat} (h : elemB ts (k : Int) = true) (hk : k < ts.length) : ¬ ts[k].name.size = 0 := by
  unfold elemB at h
  rw [Bool.and_eq_true] at h
  have h2 := h.2
  rw [show (k : Int).toNat = k from rfl, nameI_at hk] at h2
  simpa using h2

theorem branchG {ts : List Tk} {k : Nat} (h : elemB ts (k : Int) = true) : branchI ts (k : Int) = branchL ts k := by
  unfold branchI
  rw [h]
  rfl

set_option maxRecDepth 8000 in
set_option maxHeartbeats 16000000 in
theorem law_grafts (a : Option Addr) (len cap : Nat) (w : World) (hcr : CodeRow w a len) :
    Calls Try.prog 4 #[.slice a len cap] w fun e w' => e = .returned (.bool true) ∧ Below w.heap.size w w' := by
  by_cases hl : len ≤ 4096
  case neg =>
    have CB := hid (fun wx => cBig_yes a len cap wx hl)
    clear hcr
    go_enter Try.func4, Try.ntmps4
    go_wp2_with fail
    refine (CB.out _).mono ?_
    rintro e w1 ⟨rfl, rfl⟩
    go_wp2_with fail
    go_ret
    exact ⟨rfl, Below.refl _ _⟩
  have CB := hid (fun wx => cBig_no a len cap wx hl)
  have HCR := hid hcr
  clear hcr
  go_enter Try.func4, Try.ntmps4
  go_wp2_with fail
  refine (CB.out _).mono ?_
  rintro e w1 ⟨rfl, rfl⟩
  clear CB
  go_wp2_with fail
  refine (cDrawGraftedG a len cap _ hl HCR.out).mono ?_
  rintro e w2 ⟨a2, c2, ts, x, ab, cb, br, rfl, hr2, hrb, hn2, hnb, hz2, hzb, ⟨hx1, hx2⟩, ⟨hc2, hc2m⟩, hb2⟩
  have HZ := hid (sz_big hz2)
  have HZb := hid (sz_big hzb)
  have HR2 := hid hr2
  have HRb2 := hid hrb
  have HB2 := hid hb2
  have HCP := hid (And.intro hc2 hc2m)
  have CGI := hid (fun wx (h : TkRow wx a2 ts) (h2 : TkRow wx ab br) => cGraftedI a2 ab c2 cb ts br x wx h h2 HCP.out.1 (by omega) (by omega) HZ.out HZb.out)
  have CGS := hid (fun wx (h : TkRow wx a2 ts) (h2 : TkRow wx ab br) => cGraftedS a2 ab c2 cb ts br x wx h h2 HCP.out.1 HCP.out.2 (by omega) (by omega) HZ.out HZb.out)
  have CTS := hid (fun wx (h : TkRow wx a2 ts) => cTreeOkS a2 c2 ts wx h (by omega) HZ.out)
  have CES := hid (fun wx (h : TkRow wx a2 ts) => cEndOfS a2 c2 ts x wx h (by omega) HZ.out)
  have CLts := hid (fun (p q : Option Addr) (cp cq : Nat) wx (h : TkRow wx p ts) (h2 : TkRow wx q ts) => cLikeTree p q cp cq ts wx h h2 HZ.out (by omega))
  have CLbr := hid (fun (p q : Option Addr) (cp cq : Nat) wx (h : TkRow wx p br) (h2 : TkRow wx q br) => cLikeTree p q cp cq br wx h h2 HZb.out (by omega))
  have HGZ := hid (sz_graft (x := x) HZ.out HZb.out)
  have hgl := (ans_graft ts br x).len
  obtain ⟨GL, hGL⟩ : ∃ GL, graftL ts br x = GL := ⟨_, rfl⟩
  obtain ⟨GB, hGB⟩ : ∃ GB, graftB ts br x = GB := ⟨_, rfl⟩
  have HG := hid (And.intro hGL hGB)
  rw [hGL, hGB] at CGI CGS
  rw [hGL] at HGZ hgl
  have CLG := hid (fun (p q : Option Addr) (cp cq : Nat) wx (h : TkRow wx p GL) (h2 : TkRow wx q GL) => cLikeTree p q cp cq GL wx h h2 HGZ.out (by omega))
  obtain ⟨n, hnn⟩ : ∃ n, ts.length = n := ⟨_, rfl⟩
  have HN := hid hnn
  obtain ⟨nb, hnnb⟩ : ∃ nb, br.length = nb := ⟨_, rfl⟩
  have HNb := hid hnnb
  rw [hnn] at CGI CGS CTS CES CLts hn2 ⊢
  rw [hnnb] at CGI CGS CLbr hnb ⊢
  obtain ⟨gn, hgn⟩ : ∃ gn, GL.length = gn := ⟨_, rfl⟩
  have HGN := hid hgn
  rw [hgn] at CLG hgl
  clear hr2 hrb hz2 hzb hb2 hGL hGB hnn hnnb hgn hc2 hc2m
  go_wp2_with fail
  refine (CGI.out _ HR2.out HRb2.out).mono ?_
  rintro e w3 ⟨v3, rfl, hq3⟩
  obtain ⟨a3, c3, hv3, ht3, hc3, hc3m⟩ := hq3.cap
  have hb3 := hq3.bel
  subst hv3
  rw [HGN.out]
  have HC3 := hid (And.intro hc3 hc3m)
  have HT3 := hid ht3
  have HR3 := hid (HR2.out.below hb3)
  have HRb3 := hid (HRb2.out.below hb3)
  have HB3 := hid (bb HB2.out hb3)
  have HCR3 := hid (code_below HCR.out HB3.out)
  clear hq3 ht3 hb3 hc3 hc3m HR2 HRb2 HB2 CGI HCR
  go_wp2_with fail
  refine (cDrawWrappedG a len cap _ hl HCR3.out).mono ?_
  rintro e w4 ⟨a4, c4, us, y, nm, rfl, hr4, hn4, hz4, ⟨hy1, hy2⟩, hnm, ⟨hc4, hc4m⟩, hb4⟩
  have HZ4 := hid (sz_big hz4)
  have HU4 := hid hr4
  have HT4 := hid (HT3.out.below hb4)
  have HR4 := hid (HR3.out.below hb4)
  have HRb4 := hid (HRb3.out.below hb4)
  have HB4 := hid (bb HB3.out hb4)
  have HCQ := hid (And.intro hc4 hc4m)
  have CWI := hid (fun wx (h : TkRow wx a4 us) => cWrappedI a4 c4 us y nm wx h HCQ.out.1 (by omega) HZ4.out hnm)
  have CWS := hid (fun wx (h : TkRow wx a4 us) => cWrappedS a4 c4 us y nm wx h HCQ.out.1 HCQ.out.2 (by omega) HZ4.out hnm)
  have CUB := hid (fun wx (h : TkRow wx a4 us) => cBranchS a4 c4 us y wx h (by omega) HZ4.out)
  have HWZ := hid (sz_wrap (x := y) (name := nm) HZ4.out hnm)
  have hwl := (ans_wrap us y nm).len
  obtain ⟨WL, hWL⟩ : ∃ WL, wrapT us y nm = WL := ⟨_, rfl⟩
  obtain ⟨WB, hWB⟩ : ∃ WB, wrapB us y nm = WB := ⟨_, rfl⟩
  have HW := hid (And.intro hWL hWB)
  rw [hWL, hWB] at CWI CWS
  rw [hWL] at HWZ hwl
  have CLW := hid (fun (p q : Option Addr) (cp cq : Nat) wx (h : TkRow wx p WL) (h2 : TkRow wx q WL) => cLikeTree p q cp cq WL wx h h2 HWZ.out (by omega))
  have CWB := hid (fun (z : Int) (p : Option Addr) (cp : Nat) wx (h : TkRow wx p WL) => cBranchS p cp WL z wx h (by omega) HWZ.out)
  obtain ⟨m, hmm⟩ : ∃ m, us.length = m := ⟨_, rfl⟩
  have HM := hid hmm
  rw [hmm] at CWI CWS CUB hn4 ⊢
  obtain ⟨wn, hwn⟩ : ∃ wn, WL.length = wn := ⟨_, rfl⟩
  have HWN := hid hwn
  rw [hwn] at CLW CWB hwl
  clear hr4 hz4 hb4 hWL hWB hmm hwn hc4 hc4m HT3 HR3 HRb3 HB3 HCR3
  go_wp2_with fail
  refine (CWI.out _ HU4.out).mono ?_
  rintro e w5 ⟨v5, rfl, hq5⟩
  obtain ⟨a5, c5, hv5, ht5⟩ := hq5.tk
  have hb5 := hq5.bel
  subst hv5
  rw [HWN.out]
  have HW5 := hid ht5
  have HU5 := hid (HU4.out.below hb5)
  have HT5 := hid (HT4.out.below hb5)
  have HR5 := hid (HR4.out.below hb5)
  have HRb5 := hid (HRb4.out.below hb5)
  have HB5 := hid (bb HB4.out hb5)
  clear hq5 ht5 hb5 HU4 HT4 HR4 HRb4 HB4 CWI
  go_wp2_with fail
  refine (CGS.out _ HR5.out HRb5.out).mono ?_
  rintro e w6 ⟨v6, rfl, hq6⟩
  obtain ⟨a6, c6, hv6, ht6⟩ := hq6.tk
  have hb6 := hq6.bel
  subst hv6
  rw [HGN.out]
  have HW6 := hid (HW5.out.below hb6)
  have HU6 := hid (HU5.out.below hb6)
  have HT6 := hid (HT5.out.below hb6)
  have HR6 := hid (HR5.out.below hb6)
  have HRb6 := hid (HRb5.out.below hb6)
  have HB6 := hid (bb HB5.out hb6)
  have HY6 := hid ht6
  clear hq6 ht6 hb6 HW5 HU5 HT5 HR5 HRb5 HB5 CGS
  have hGG : (GB != GB) = false := by cases GB <;> rfl
  have hWW : (WB != WB) = false := by cases WB <;> rfl
  go_wp2_with fail
  refine (CLG.out _ _ _ _ _ HT6.out HY6.out).mono ?_
  rintro e w7 ⟨rfl, hb7⟩
  have HW7 := hid (HW6.out.below hb7)
  have HU7 := hid (HU6.out.below hb7)
  have HT7 := hid (HT6.out.below hb7)
  have HR7 := hid (HR6.out.below hb7)
  have HRb7 := hid (HRb6.out.below hb7)
  have HB7 := hid (bb HB6.out hb7)
  clear hb7 HW6 HU6 HT6 HR6 HRb6 HB6 HY6
  go_wp2_with fail
  refine (CWS.out _ HU7.out).mono ?_
  rintro e w8 ⟨v8, rfl, hq8⟩
  obtain ⟨a8, c8, hv8, ht8⟩ := hq8.tk
  have hb8 := hq8.bel
  subst hv8
  rw [HWN.out]
  have HW8 := hid (HW7.out.below hb8)
  have HU8 := hid (HU7.out.below hb8)
  have HT8 := hid (HT7.out.below hb8)
  have HR8 := hid (HR7.out.below hb8)
  have HRb8 := hid (HRb7.out.below hb8)
  have HB8 := hid (bb HB7.out hb8)
  have HY8 := hid ht8
  clear hq8 ht8 hb8 HW7 HU7 HT7 HR7 HRb7 HB7 CWS
  go_wp2_with fail
  refine (CLW.out _ _ _ _ _ HW8.out HY8.out).mono ?_
  rintro e w9 ⟨rfl, hb9⟩
  have HW9 := hid (HW8.out.below hb9)
  have HU9 := hid (HU8.out.below hb9)
  have HT9 := hid (HT8.out.below hb9)
  have HR9 := hid (HR8.out.below hb9)
  have HRb9 := hid (HRb8.out.below hb9)
  have HB9 := hid (bb HB8.out hb9)
  clear hb9 HW8 HU8 HT8 HR8 HRb8 HB8 HY8 CLW
  go_upto_if 86 with fail
  go_cut [17, 18, 19, 20] from 87 to 138 (fun _ _ _ _ wv => Hid (Below w9.heap.size w9 wv))
  case first =>
    cases WB with
    | false =>
      go_wp2_with fail
      go_meet
      exact Below.refl _ _
    | true =>
      have hwb := HW.out.2
      unfold wrapB at hwb
      simp only [Bool.and_eq_true, decide_eq_true_eq] at hwb
      obtain ⟨h1y, hel, _, htw⟩ := hwb
      obtain ⟨hUT, k, rfl, hk⟩ := elemB_t hel
      have eW : WL = wrapL us k nm := by
        rw [← HW.out.1]
        unfold wrapT
        rw [treeB_t hUT, HW.out.2]
        rfl
      have hWT : TreeP WL := by rw [eW]; exact treeG htw
      have hne := elemG_name hel hk
      have h2 := wrap_two (name := nm) hk
      have h1 := wrap_one (name := nm) hk
      rw [← eW] at h1 h2
      have hel2 : elemB WL ((k + 1 : Nat) : Int) = true := elemG hWT h2 hne
      have eB : branchL WL (k + 1) = branchL us k := by rw [eW]; exact wrap_branch hk
      have hwn : wn = m + 1 := by rw [← HWN.out, eW, wrapL_len hk, HM.out]
      have hk1 : k < WL.length := by rw [HWN.out, hwn, ← HM.out]; omega
      have hk2 : k + 1 < WL.length := by rw [HWN.out, hwn, ← HM.out]; omega
      obtain ⟨b5, o5, aa5, ca5, e5, hb5, -, p1, -⟩ := HW9.out k hk1
      subst e5
      obtain ⟨b6, o6, aa6, ca6, e6, hb6, p2, -, -⟩ := HW9.out (k + 1) hk2
      obtain ⟨rfl, rfl⟩ : b5 = b6 ∧ o5 = o6 := by cases e6; exact ⟨rfl, rfl⟩
      rw [List.getElem?_eq_getElem hk1] at h1
      rw [List.getElem?_eq_getElem hk2] at h2
      rw [Option.some.inj h1] at p1
      rw [Option.some.inj h2] at p2
      have CW1 := hid (CWB.out ((k + 1 : Nat) : Int) (some ⟨b5, o5, none⟩) c5)
      have CU1 := hid CUB.out
      rw [branchG hel2, hel2, eB] at CW1
      rw [branchG hel, hel] at CU1
      have HBZ := hid (show TksSz 1048576 (branchL us k) from segN_sz HZ4.out _)
      have hbl : (branchL us k).length ≤ 50 := by rw [branchL_len hk]; have := (endN_le hk).2; have := hUT.2.1; omega
      obtain ⟨BL, hBL⟩ : ∃ BL, branchL us k = BL := ⟨_, rfl⟩
      rw [hBL] at CW1 CU1 HBZ hbl
      have CLB := hid (fun (p q : Option Addr) (cp cq : Nat) wx (h : TkRow wx p BL) (h2 : TkRow wx q BL) => cLikeTree p q cp cq BL wx h h2 HBZ.out (by omega))
      obtain ⟨bn, hbn⟩ : ∃ bn, BL.length = bn := ⟨_, rfl⟩
      have HBN := hid hbn
      rw [hbn] at CLB hbl
      have hkw : (k : Int) < (wn : Int) := by rw [← HWN.out]; omega
      have hkw1 : (k : Int) + 1 < (wn : Int) := by rw [← HWN.out]; omega
      have q1 : (nm.toList != nm.toList) = false := by simp
      have q2 : ((k : Int) != (k : Int)) = false := by simp
      have q3 : ((wn : Int) != (m : Int) + 1) = false := by rw [hwn]; simp
      have hm50 : (m : Int) ≤ 1000 := by omega
      have p1' : w9.cell? ⟨b5, o5 + k * 4 + 1, none⟩ = some (.string nm) := p1
      have p2' : w9.cell? ⟨b5, o5 + (k + 1) * 4, none⟩ = some (.int .i64 (k : Int)) := p2
      have HP1 := hid p1'
      have HP2 := hid p2'
      have HLT := hid hb5
      have hcast : ((k + 1 : Nat) : Int) = (k : Int) + 1 := by omega
      rw [hcast] at CW1
      clear hwn p1 p2 p1' p2' hUT hk eW hWT hne h1 h2 hel hel2 eB hk1 hk2 e6 hBL hbn htw h1y hb5 hb6 CWB CUB hy1 hy2 hcast
      go_wp2_with fail
      refine (CW1.out _ HW9.out).mono ?_
      rintro e w10 ⟨v10, rfl, hq10⟩
      obtain ⟨a10, c10, hv10, ht10⟩ := hq10.tk
      have hb10 := hq10.bel
      subst hv10
      rw [HBN.out]
      have HX10 := hid ht10
      have HU10 := hid (HU9.out.below hb10)
      have D10 := hid hb10
      clear hq10 ht10 hb10 CW1
      go_wp2_with fail
      refine (CU1.out _ HU10.out).mono ?_
      rintro e w11 ⟨v11, rfl, hq11⟩
      obtain ⟨a11, c11, hv11, ht11⟩ := hq11.tk
      have hb11 := hq11.bel
      subst hv11
      rw [HBN.out]
      have HX11 := hid (HX10.out.below hb11)
      have HY11 := hid ht11
      have D11 := hid (bb D10.out hb11)
      clear hq11 ht11 hb11 CU1 HX10 D10
      go_wp2_with fail
      refine (CLB.out _ _ _ _ _ HX11.out HY11.out).mono ?_
      rintro e w12 ⟨rfl, hb12⟩
      have D12 := hid (bb D11.out hb12)
      have r1 := (D12.out.cell (p := ⟨b5, o5 + k * 4 + 1, none⟩) HLT.out).trans HP1.out
      have r2 := (D12.out.cell (p := ⟨b5, o5 + (k + 1) * 4, none⟩) HLT.out).trans HP2.out
      clear hb12 D11 HX11 HY11
      go_wp2_with fail
      go_meet
      exact D12.out
  have HT10 := hid (HT9.out.below hcut.out)
  have HR10 := hid (HR9.out.below hcut.out)
  have HRb10 := hid (HRb9.out.below hcut.out)
  have HB10 := hid (bb HB9.out hcut.out)
  clear hcut HT9 HR9 HRb9 HB9 HW9 HU9 CWB CUB HW HWZ
  obtain ⟨TB, hTB⟩ : ∃ TB, treeB ts = TB := ⟨_, rfl⟩
  have HTB := hid hTB
  rw [hTB] at CTS
  clear hTB
  cases GB with
  | false =>
    cases TB with
    | false =>
      have HF := hid (show gn = 0 by
        rw [← HGN.out, ← HG.out.1]
        unfold graftL
        rw [HTB.out]
        rfl)
      have e1 := HF.out
      subst e1
      go_wp2_with fail
      refine (CTS.out _ HR10.out).mono ?_
      rintro e w11 ⟨rfl, hb11⟩
      have HB11 := hid (bb HB10.out hb11)
      clear hb11 CTS
      go_wp2_with fail
      go_ret
      exact ⟨rfl, HB11.out⟩
    | true =>
      have HEQ := hid (show GL = ts by
        rw [← HG.out.1]
        unfold graftL
        rw [HTB.out, HG.out.2]
        rfl)
      have HGN2 := hid (show gn = n by rw [← HGN.out, HEQ.out]; exact HN.out)
      have egn := HGN2.out
      subst egn
      go_wp2_with fail
      refine (CTS.out _ HR10.out).mono ?_
      rintro e w11 ⟨rfl, hb11⟩
      have HB11 := hid (bb HB10.out hb11)
      have HT11 := hid (show TkRow w11 a3 ts by rw [← HEQ.out]; exact HT10.out.below hb11)
      have HR11 := hid (HR10.out.below hb11)
      clear hb11 CTS
      go_wp2_with fail
      refine (CLts.out _ _ _ _ _ HT11.out HR11.out).mono ?_
      rintro e w12 ⟨rfl, hb12⟩
      have HB12 := hid (bb HB11.out hb12)
      clear hb12
      go_wp2_with fail
      go_ret
      exact ⟨rfl, HB12.out⟩
  | true =>
    have hgb := HG.out.2
    unfold graftB at hgb
    simp only [Bool.and_eq_true] at hgb
    obtain ⟨hel, hbt, hpt⟩ := hgb
    obtain ⟨hTP, k, rfl, hk⟩ := elemB_t hel
    have hBP := treeG hbt
    have eG : GL = putL ts (endN ts k) (k : Int) br := by
      rw [← HG.out.1]
      unfold graftL
      rw [treeB_t hTP, HG.out.2]
      rfl
    have hGP : TreeP GL := by rw [eG]; exact treeG hpt
    have hle := endN_le hk
    have hstop : ∀ t, ts[endN ts k]? = some t → t.kind < (endN ts k : Int) := by
      intro t ht
      rcases endN_stop hk with h | h
      · rw [List.getElem?_eq_none (by omega)] at ht; cases ht
      · unfold parI at h
        rw [ht] at h
        have h' : t.kind < (k : Int) := h
        omega
    have hend : endN GL (endN ts k) = endN ts k + br.length := by rw [eG]; exact put_end hle.2 hBP hstop
    have hbr : branchL GL (endN ts k) = br := by rw [eG]; exact put_branch hle.2 hBP hstop
    have hcut : cutL GL (endN ts k) (endN GL (endN ts k)) = ts := by rw [hend, eG]; exact put_cut hTP hk hBP
    have hb0 := hBP.1
    have hmid := put_mid (ts := ts) (br := br) (e := endN ts k) (par := (k : Int)) hle.2 (i := 0) hb0 (List.getElem?_eq_getElem hb0)
    rw [Nat.add_zero, ← eG] at hmid
    have hglen : GL.length = ts.length + br.length := by rw [eG]; exact putL_len hle.2
    have hbne : ¬ (br[0]'hb0).name.size = 0 := hBP.2.2.2.1.2
    have hel2 : elemB GL (endN ts k : Int) = true := elemG hGP hmid hbne
    have hpb : pruneB GL (endN ts k : Int) = true := by
      unfold pruneB
      rw [decide_eq_true (show (1 : Int) ≤ (endN ts k : Int) by omega), decide_eq_true (show (endN ts k : Int) < (GL.length : Int) by omega), treeB_t hGP]
      show (true && true && (true && treeB (cutL GL (endN ts k) (endN GL (endN ts k))))) = true
      rw [hcut, treeB_t hTP]
      rfl
    have hpt2 : pruneT GL (endN ts k : Int) = ts := by
      unfold pruneT
      rw [treeB_t hGP, hpb]
      exact hcut
    have hEI : endI ts (k : Int) = (endN ts k : Int) := by
      unfold endI
      rw [hasB_of hTP hk]
      rfl
    have hEl : endN ts k < GL.length := by omega
    obtain ⟨b3, o3, aa3, ca3, e3, hb3, p0, -⟩ := HT10.out (endN ts k) hEl
    subst e3
    rw [List.getElem?_eq_getElem hEl] at hmid
    rw [Option.some.inj hmid] at p0
    have p0' : _ = some (Value.int .i64 (k : Int)) := p0
    have CBr := hid (fun wx (h : TkRow wx (some ⟨b3, o3, none⟩) GL) => cBranchS (some ⟨b3, o3, none⟩) c3 GL (endN ts k : Int) wx h (by rw [HGN.out]; omega) HGZ.out)
    have CPr := hid (fun wx (h : TkRow wx (some ⟨b3, o3, none⟩) GL) => cPrunedS (some ⟨b3, o3, none⟩) c3 GL (endN ts k : Int) wx h HC3.out.1 HC3.out.2 (by rw [HGN.out]; omega) HGZ.out)
    rw [branchG hel2, hel2, hbr] at CBr
    rw [hpt2, hpb] at CPr
    rw [HGN.out] at CBr CPr
    rw [hEI] at CES
    have hEg : (endN ts k : Int) < (gn : Int) := by rw [← HGN.out]; omega
    obtain ⟨EN, hEN⟩ : ∃ EN, endN ts k = EN := ⟨_, rfl⟩
    rw [hEN] at CES CBr CPr p0' hEg
    have HP0 := hid p0'
    have HLT := hid hb3
    have qkk : ((k : Int) == (k : Int)) = true := by simp
    clear hel hbt hpt hTP hBP eG hGP hle hstop hend hbr hcut hb0 hmid hglen hbne hel2 hpb hpt2 hEI hEl p0 p0' hb3 hEN hk hx1 hx2
    go_wp2_with fail
    refine (CES.out _ HR10.out).mono ?_
    rintro e w11 ⟨rfl, hb11⟩
    have HT11 := hid (HT10.out.below hb11)
    have HR11 := hid (HR10.out.below hb11)
    have HRb11 := hid (HRb10.out.below hb11)
    have D11 := hid hb11
    clear hb11 CES
    go_wp2_with fail
    refine (CBr.out _ HT11.out).mono ?_
    rintro e w12 ⟨v12, rfl, hq12⟩
    obtain ⟨a12, c12, hv12, ht12⟩ := hq12.tk
    have hb12 := hq12.bel
    subst hv12
    rw [HNb.out]
    have HX12 := hid ht12
    have HT12 := hid (HT11.out.below hb12)
    have HR12 := hid (HR11.out.below hb12)
    have HRb12 := hid (HRb11.out.below hb12)
    have D12 := hid (bb D11.out hb12)
    clear hq12 ht12 hb12 CBr HT11 HR11 HRb11 D11
    go_wp2_with fail
    refine (CPr.out _ HT12.out).mono ?_
    rintro e w13 ⟨v13, rfl, hq13⟩
    obtain ⟨a13, c13, hv13, ht13⟩ := hq13.tk
    have hb13 := hq13.bel
    subst hv13
    rw [HN.out]
    have HX13 := hid (HX12.out.below hb13)
    have HY13 := hid ht13
    have HR13 := hid (HR12.out.below hb13)
    have HRb13 := hid (HRb12.out.below hb13)
    have D13 := hid (bb D12.out hb13)
    clear hq13 ht13 hb13 CPr HX12 HR12 HRb12 D12
    go_wp2_with fail
    refine (CLbr.out _ _ _ _ _ HX13.out HRb13.out).mono ?_
    rintro e w14 ⟨rfl, hb14⟩
    have HY14 := hid (HY13.out.below hb14)
    have HR14 := hid (HR13.out.below hb14)
    have D14 := hid (bb D13.out hb14)
    clear hb14 HX13 HRb13 HY13 HR13 D13 CLbr
    go_wp2_with fail
    refine (CLts.out _ _ _ _ _ HY14.out HR14.out).mono ?_
    rintro e w15 ⟨rfl, hb15⟩
    have D15 := hid (bb D14.out hb15)
    have r0 := (D15.out.cell (p := ⟨b3, o3 + EN * 4, none⟩) HLT.out).trans HP0.out
    have HB15 := hid (bb HB10.out D15.out)
    clear hb15 D14
    go_wp2_with fail
    go_ret
    exact ⟨rfl, HB15.out⟩

end Go.Proofs.Ytikplfghepojiaa
