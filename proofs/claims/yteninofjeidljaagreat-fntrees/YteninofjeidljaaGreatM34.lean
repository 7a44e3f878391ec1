/- The law FnTrees, walked. -/
import Derived.Test.YteninofjeidljaaGreatM29
import Derived.Test.YteninofjeidljaaGreatM33
import Derived.Deep.CutRange
namespace Go.Proofs.YteninofjeidljaaGreat

open Go.RowKit

set_option linter.unusedVariables false

set_option linter.unusedSimpArgs false

theorem cTokensOfIT (a : Option Addr) (cap : Nat) (ts : List Tk) (w : World) (hR : TkRow w a ts) (hn : ts.length ≤ 1048576) (hz : TksSz 1048576 ts) :
    Calls Tryz.prog 8 #[.slice a ts.length cap] w fun e w' => ∃ a' c', e = .returned (.slice a' (toksT ts).length c') ∧ TkRow w' a' (toksT ts) ∧ Below w.heap.size w w' := by
  refine (cTokensOfI a cap ts w hR hn hz).mono ?_
  rintro e w' ⟨a', c', es, rfl, hr, hm, hb⟩
  have h := tkRow_of hr
  rw [hm] at h
  exact ⟨a', c', by rw [← hm, List.length_map], h, hb⟩

theorem cTokensOfST (a : Option Addr) (cap : Nat) (ts : List Tk) (w : World) (hR : TkRow w a ts) (hn : ts.length ≤ 1048576) (hz : TksSz 1048576 ts) :
    Calls Tryz.prog 17 #[.slice a ts.length cap] w fun e w' => ∃ a' c', e = .returned (.slice a' (toksT ts).length c') ∧ TkRow w' a' (toksT ts) ∧ Below w.heap.size w w' := by
  refine (cTokensOfS a cap ts w hR hn hz).mono ?_
  rintro e w' ⟨a', c', es, rfl, hr, hm, hb⟩
  have h := tkRow_of hr
  rw [hm] at h
  exact ⟨a', c', by rw [← hm, List.length_map], h, hb⟩

theorem nd_row {w : World} {B : Nat} {a : Option Addr} {L c : Nat} {es : List Nd.E} (h : Nd.Row w B (.slice a L c) es) : TkRow w a (es.map (·.t)) := by
  obtain ⟨a', c', e, hr⟩ := h.tkRow
  injection e with e1 _ _
  subst e1
  exact hr

theorem cGrownIT (a : Option Addr) (cap : Nat) (l : List Tk) (w : World) (hR : TkRow w a l) (hn : l.length ≤ 1048576) (hz : TksSz 1048576 l) :
    Calls Tryz.prog 10 #[.slice a l.length cap] w fun e w' => ∃ a' c', e = .returned (.tuple #[.slice a' ((grownT l).getD []).length c', .bool (grownT l).isSome]) ∧ TkRow w' a' ((grownT l).getD []) ∧ Below w.heap.size w w' := by
  refine (cGrownI a cap l w hR hn hz).mono ?_
  rintro e w' ⟨a', c', es, rfl, hr, hm, hb⟩
  have h := nd_row hr
  rw [hm] at h
  exact ⟨a', c', by rw [← hm, List.length_map], h, hb⟩

theorem cReadTreeIT (s : ByteArray) (w : World) (hs : s.size ≤ maxLen) (hdd : NoDD s) :
    Calls Tryz.prog 12 #[.string s] w fun e w' => ∃ a' c', e = .returned (.tuple #[.slice a' ((readT s).getD []).length c', .bool (readT s).isSome]) ∧ TkRow w' a' ((readT s).getD []) ∧ Below w.heap.size w w' := by
  refine (cReadTreeI s w hs hdd).mono ?_
  rintro e w' ⟨a', c', es, rfl, hr, hm, hb⟩
  have h := nd_row hr
  rw [hm] at h
  exact ⟨a', c', by rw [← hm, List.length_map], h, hb⟩

/-- The five rows, where they lie. -/
structure TrSt (w : World) (a1 a2 a3 a4 a5 : Option Addr) (ts ls qs gs xs : List Tk) (W : World) : Prop where
  t : TkRow W a1 ts
  l : TkRow W a2 ls
  q : TkRow W a3 qs
  g : TkRow W a4 gs
  x : TkRow W a5 xs
  kept : Below w.heap.size w W

theorem TrSt.below {w W W1 : World} {a1 a2 a3 a4 a5 : Option Addr} {ts ls qs gs xs : List Tk} (h : TrSt w a1 a2 a3 a4 a5 ts ls qs gs xs W) (hb : Below W.heap.size W W1) : TrSt w a1 a2 a3 a4 a5 ts ls qs gs xs W1 :=
  ⟨h.t.below hb, h.l.below hb, h.q.below hb, h.g.below hb, h.x.below hb, bb h.kept hb⟩

theorem getD_small {o : Option (List Tk)} (h : ∀ ts, o = some ts → treeB ts = true) : TksSz 1048576 (o.getD []) ∧ (o.getD []).length ≤ 50 := by
  cases o with
  | none => exact ⟨fun t ht => absurd ht List.not_mem_nil, Nat.zero_le _⟩
  | some ts => exact small_tree (h ts rfl)

set_option maxRecDepth 8000 in
set_option maxHeartbeats 16000000 in
theorem law_trees (a : Option Addr) (len cap : Nat) (w : World) (hcr : CodeRow w a len) :
    Calls Tryz.prog 3 #[.slice a len cap] w fun e w' => e = .returned (.bool true) ∧ Below w.heap.size w w' := by
  by_cases hl : len ≤ 4096
  case neg =>
    have CB := hid (fun wx => cBig_yes a len cap wx hl)
    clear hcr
    go_enter Tryz.func3, Tryz.ntmps3
    go_wp2_with fail
    refine (CB.out _).mono ?_
    rintro e w1 ⟨rfl, rfl⟩
    go_wp2_with fail
    go_ret
    exact ⟨rfl, Below.refl _ _⟩
  have CB := hid (fun wx => cBig_no a len cap wx hl)
  have HCR := hid hcr
  clear hcr
  go_enter Tryz.func3, Tryz.ntmps3
  go_wp2_with fail
  refine (CB.out _).mono ?_
  rintro e w1 ⟨rfl, rfl⟩
  clear CB
  go_wp2_with fail
  refine (cDrawShowTree a len cap _ hl HCR.out).mono ?_
  rintro e w2 ⟨a1, c1, ts, rfl, hr1, hn1, hv1, hb2⟩
  have hz1 := tksv_big hv1 (by decide)
  have hcl := shown_clean hv1
  have hsm := shown_small hz1 hn1
  have hlf := toksT_facts hz1
  have CSI := hid (fun wx (h : TkRow wx a1 ts) => cShowTreeI a1 c1 ts wx h (by omega) hz1)
  have CSS := hid (fun wx (h : TkRow wx a1 ts) => cShowTreeS a1 c1 ts wx h (by omega) hz1)
  have CTI := hid (fun wx (h : TkRow wx a1 ts) => cTokensOfIT a1 c1 ts wx h (by omega) hz1)
  have CTS := hid (fun wx (h : TkRow wx a1 ts) => cTokensOfST a1 c1 ts wx h (by omega) hz1)
  have COI := hid (fun wx (h : TkRow wx a1 ts) => cTreeOkI a1 c1 ts wx h (by omega) hz1)
  have COS := hid (fun wx (h : TkRow wx a1 ts) => cTreeOkS a1 c1 ts wx h (by omega) hz1)
  have CLT := hid (fun (x y : Option Addr) (cx cy : Nat) wx (h : TkRow wx x ts) (h2 : TkRow wx y ts) => cLikeTree x y cx cy ts wx h h2 hz1 (by omega))
  have CLK := hid (fun (x y : Option Addr) (cx cy : Nat) wx (h : TkRow wx x (toksT ts)) (h2 : TkRow wx y (toksT ts)) => cLikeTokens x y cx cy (toksT ts) wx h h2 (toksT_sz hz1) (by have := hlf.1; omega))
  have CGL := hid (fun (x : Option Addr) (cx : Nat) wx (h : TkRow wx x (toksT ts)) => cGrownIT x cx (toksT ts) wx h (by have := hlf.1; omega) (toksT_sz hz1))
  have CRS := hid (fun wx => cReadTreeIT (shownN ts) wx (by unfold maxLen; omega) (noDD_of (by omega)))
  have HNO := hid (fun h : treeB ts = false => shown_no h)
  have HGT := hid (fun h : treeB ts = true => toksT_tree h)
  have HRS := hid (fun (h : treeB ts = true) (hs : (shownN ts).size ≤ 4000) => read_shown (treeB_P h) hz1 hs)
  have HMX := hid (show (shownN ts).size ≤ 2000000000 from hsm)
  obtain ⟨SS, hSS⟩ : ∃ SS, shownN ts = SS := ⟨_, rfl⟩
  rw [hSS] at CSI CSS CRS HNO HRS HMX
  obtain ⟨TT, hTT⟩ : ∃ TT, toksT ts = TT := ⟨_, rfl⟩
  rw [hTT] at CTI CTS CLK CGL HNO HGT
  obtain ⟨K, hK⟩ : ∃ K, treeB ts = K := ⟨_, rfl⟩
  rw [hK] at COI COS HNO HGT HRS
  have HR2 := hid hr1
  have HB2 := hid hb2
  have HCR2 := hid (code_below HCR.out hb2)
  obtain ⟨n1, hn1'⟩ : ∃ n1, ts.length = n1 := ⟨_, rfl⟩
  rw [hn1'] at CSI CSS CTI CTS COI COS CLT ⊢
  have HN1 := hid hn1'
  obtain ⟨nl, hnl⟩ : ∃ nl, TT.length = nl := ⟨_, rfl⟩
  rw [hnl] at CTI CTS CLK CGL
  have HNL := hid hnl
  clear hr1 hn1 hv1 hz1 hcl hsm hlf hb2 hSS hTT hK hn1' hnl HCR
  go_wp2_with fail
  refine (CSI.out _ HR2.out).mono ?_
  rintro e w3 ⟨rfl, hb3⟩
  have HR3 := hid (HR2.out.below hb3)
  have HB3 := hid (bb HB2.out hb3)
  have HCR3 := hid (code_below HCR2.out hb3)
  clear hb3 HR2 HB2 HCR2 CSI
  go_wp2_with fail
  refine (CTI.out _ HR3.out).mono ?_
  rintro e w4 ⟨a2, c2, rfl, hr4, hb4⟩
  have HK4 := hid hr4
  have HR4 := hid (HR3.out.below hb4)
  have HB4 := hid (bb HB3.out hb4)
  have HCR4 := hid (code_below HCR3.out hb4)
  clear hr4 hb4 HR3 HB3 HCR3 CTI
  go_wp2_with fail
  refine (cDrawGrown a len cap _ hl HCR4.out).mono ?_
  rintro e w5 ⟨a3, c3, qs, rfl, hr5, hn5, hz5, hb5⟩
  have CGI := hid (fun wx (h : TkRow wx a3 qs) => cGrownIT a3 c3 qs wx h (by omega) hz5)
  have CGS := hid (fun wx (h : TkRow wx a3 qs) => cGrownS a3 c3 qs wx h (by omega) hz5)
  have CLQ := hid (fun (x y : Option Addr) (cx cy : Nat) wx (h : TkRow wx x qs) (h2 : TkRow wx y qs) => cLikeTokens x y cx cy qs wx h h2 hz5 (by omega))
  obtain ⟨hgz, hgn⟩ := getD_small (o := grownT qs) (fun us h => (grown_tree h).1)
  have CLG := hid (fun (x y : Option Addr) (cx cy : Nat) wx (h : TkRow wx x ((grownT qs).getD [])) (h2 : TkRow wx y ((grownT qs).getD [])) => cLikeTree x y cx cy _ wx h h2 hgz (by omega))
  have CTG := hid (fun (x : Option Addr) (cx : Nat) wx (h : TkRow wx x ((grownT qs).getD [])) => cTokensOfIT x cx _ wx h (by omega) hgz)
  have HTG := hid (show (grownT qs).isSome = true → toksT ((grownT qs).getD []) = qs from fun h => by
    cases q : grownT qs with
    | none => rw [q] at h; cases h
    | some us => exact (grown_tree q).2)
  unfold GrowPost at CGS
  obtain ⟨GB, hGB⟩ : ∃ GB, (grownT qs).isSome = GB := ⟨_, rfl⟩
  rw [hGB] at CGI CGS HTG
  obtain ⟨gs, hgs⟩ : ∃ gs, (grownT qs).getD [] = gs := ⟨_, rfl⟩
  rw [hgs] at CGI CGS CLG CTG HTG
  have HR5 := hid (HR4.out.below hb5)
  have HK5 := hid (HK4.out.below hb5)
  have HQ5 := hid hr5
  have HB5 := hid (bb HB4.out hb5)
  have HCR5 := hid (code_below HCR4.out hb5)
  obtain ⟨nq, hnq⟩ : ∃ nq, qs.length = nq := ⟨_, rfl⟩
  have HNQ := hid hnq
  rw [hnq] at CGI CGS CLQ ⊢
  obtain ⟨ng, hng⟩ : ∃ ng, gs.length = ng := ⟨_, rfl⟩
  rw [hng] at CGI CGS CLG CTG
  clear hr5 hn5 hz5 hb5 hgz hgn hGB hgs hnq hng HR4 HK4 HB4 HCR4
  go_wp2_with fail
  refine (CGI.out _ HQ5.out).mono ?_
  rintro e w6 ⟨a4, c4, rfl, hr6, hb6⟩
  have HG6 := hid hr6
  have HR6 := hid (HR5.out.below hb6)
  have HK6 := hid (HK5.out.below hb6)
  have HQ6 := hid (HQ5.out.below hb6)
  have HB6 := hid (bb HB5.out hb6)
  have HCR6 := hid (code_below HCR5.out hb6)
  clear hr6 hb6 HR5 HK5 HQ5 HB5 HCR5 CGI
  go_wp2_with fail
  refine (cDrawReadTree a len cap _ hl HCR6.out).mono ?_
  rintro e w7 ⟨r, us, rfl, hv7, hrs7, hrc7, hn7, hb7⟩
  have hcl7 := shown_clean hv7
  have hsm7 := shown_small (tksv_big hv7 (by decide)) hn7
  have CRI := hid (fun wx => cReadTreeIT r wx (by unfold maxLen; omega) (noDD_of (by omega)))
  have CRT := hid (fun wx => cReadTreeT r wx (by unfold maxLen; omega))
  obtain ⟨hxz, hxn⟩ := getD_small (o := readT r) (fun us h => read_tree h)
  have CLX := hid (fun (x y : Option Addr) (cx cy : Nat) wx (h : TkRow wx x ((readT r).getD [])) (h2 : TkRow wx y ((readT r).getD [])) => cLikeTree x y cx cy _ wx h h2 hxz (by omega))
  have COX := hid (fun (x : Option Addr) (cx : Nat) wx (h : TkRow wx x ((readT r).getD [])) => cTreeOkI x cx _ wx h (by omega) hxz)
  have HOX := hid (show (readT r).isSome = true → treeB ((readT r).getD []) = true from fun h => by
    cases q : readT r with
    | none => rw [q] at h; cases h
    | some us => exact read_tree q)
  obtain ⟨XB, hXB⟩ : ∃ XB, (readT r).isSome = XB := ⟨_, rfl⟩
  rw [hXB] at CRI CRT HOX
  obtain ⟨xs, hxs⟩ : ∃ xs, (readT r).getD [] = xs := ⟨_, rfl⟩
  rw [hxs] at CRI CRT CLX COX HOX
  obtain ⟨nx, hnx⟩ : ∃ nx, xs.length = nx := ⟨_, rfl⟩
  rw [hnx] at CRI CRT CLX COX
  have HR7 := hid (HR6.out.below hb7)
  have HK7 := hid (HK6.out.below hb7)
  have HQ7 := hid (HQ6.out.below hb7)
  have HG7 := hid (HG6.out.below hb7)
  have HB7 := hid (bb HB6.out hb7)
  clear hv7 hrs7 hrc7 hn7 hb7 hcl7 hsm7 hxz hxn hXB hxs hnx HR6 HK6 HQ6 HG6 HB6 HCR6
  go_wp2_with fail
  refine (CRI.out _).mono ?_
  rintro e w8 ⟨a5, c5, rfl, hr8, hb8⟩
  have HS8 := hid (show TrSt w1 a1 a2 a3 a4 a5 ts TT qs gs xs w8 from ⟨HR7.out.below hb8, HK7.out.below hb8, HQ7.out.below hb8, HG7.out.below hb8, hr8, bb HB7.out hb8⟩)
  clear hr8 hb8 HR7 HK7 HQ7 HG7 HB7 CRI
  have hGG : (GB != GB) = false := by cases GB <;> rfl
  have hKK : (K != K) = false := by cases K <;> rfl
  have hXX : (XB != XB) = false := by cases XB <;> rfl
  have hSS : (SS.toList != SS.toList) = false := by simp
  go_wp2_with fail
  refine (CGS.out _ HS8.out.q).mono ?_
  rintro e w9 ⟨a6, c6, rfl, hr9, hb9⟩
  have HS9 := hid (HS8.out.below hb9)
  have HY9 := hid hr9
  clear hr9 hb9 HS8 CGS
  go_wp2_with fail
  refine (CLG.out _ _ _ _ _ HS9.out.g HY9.out).mono ?_
  rintro e w10 ⟨rfl, hb10⟩
  have HS10 := hid (HS9.out.below hb10)
  clear hb10 HS9 HY9 CLG
  go_wp2_with fail
  refine (CSS.out _ HS10.out.t).mono ?_
  rintro e w11 ⟨rfl, hb11⟩
  have HS11 := hid (HS10.out.below hb11)
  clear hb11 HS10 CSS
  go_wp2_with fail
  refine (CTS.out _ HS11.out.t).mono ?_
  rintro e w12 ⟨a7, c7, rfl, hr12, hb12⟩
  have HS12 := hid (HS11.out.below hb12)
  have HY12 := hid hr12
  clear hr12 hb12 HS11 CTS
  go_wp2_with fail
  refine (CLK.out _ _ _ _ _ HS12.out.l HY12.out).mono ?_
  rintro e w13 ⟨rfl, hb13⟩
  have HS13 := hid (HS12.out.below hb13)
  clear hb13 HS12 HY12 CLK
  go_wp2_with fail
  refine (COI.out _ HS13.out.t).mono ?_
  rintro e w14 ⟨rfl, hb14⟩
  have HS14 := hid (HS13.out.below hb14)
  clear hb14 HS13 COI
  go_wp2_with fail
  refine (COS.out _ HS14.out.t).mono ?_
  rintro e w15 ⟨rfl, hb15⟩
  have HS15 := hid (HS14.out.below hb15)
  clear hb15 HS14
  go_wp2_with fail
  refine (CRT.out _).mono ?_
  rintro e w16 ⟨a8, c8, rfl, hr16, hb16⟩
  have HS16 := hid (HS15.out.below hb16)
  have HY16 := hid hr16
  clear hr16 hb16 HS15 CRT
  go_upto_region 14 with fail
  go_cut [97] from 81 to 97 (fun v wv => v = .bool false ∧ Hid (TrSt w1 a1 a2 a3 a4 a5 ts TT qs gs xs wv))
  case first =>
    cases XB with
    | false =>
      go_wp2_with fail
      refine (CLX.out _ _ _ _ _ HS16.out.x HY16.out).mono ?_
      rintro e w17 ⟨rfl, hb17⟩
      have HS17 := hid (HS16.out.below hb17)
      clear hb17
      go_wp2_with fail
      go_meet
      exact ⟨rfl, HS17.out⟩
    | true =>
      have hox := HOX.out (by trivial)
      rw [hox] at COX
      clear hox
      go_wp2_with fail
      refine (CLX.out _ _ _ _ _ HS16.out.x HY16.out).mono ?_
      rintro e w17 ⟨rfl, hb17⟩
      have HS17 := hid (HS16.out.below hb17)
      clear hb17
      go_wp2_with fail
      refine (COX.out _ _ _ HS17.out.x).mono ?_
      rintro e w18 ⟨rfl, hb18⟩
      have HS18 := hid (HS17.out.below hb18)
      clear hb18
      go_wp2_with fail
      go_meet
      exact ⟨rfl, HS18.out⟩
  obtain ⟨rfl, HS18⟩ := hcut
  clear HS16 HY16 CLX COX HOX hXX hSS hKK hGG
  go_upto_region 16 with fail
  go_cut [105] from 98 to 105 (fun v wv => v = .bool false ∧ Hid (TrSt w1 a1 a2 a3 a4 a5 ts TT qs gs xs wv))
  case first =>
    cases GB with
    | false =>
      go_wp2_with fail
      go_meet
      exact ⟨rfl, HS18.out⟩
    | true =>
      have htg := HTG.out (by trivial)
      rw [htg, HNQ.out] at CTG
      clear htg
      go_wp2_with fail
      refine (CTG.out _ _ _ HS18.out.g).mono ?_
      rintro e w19 ⟨a9, c9, rfl, hr19, hb19⟩
      have HS19 := hid (HS18.out.below hb19)
      have HY19 := hid hr19
      clear hr19 hb19
      go_wp2_with fail
      refine (CLQ.out _ _ _ _ _ HY19.out HS19.out.q).mono ?_
      rintro e w20 ⟨rfl, hb20⟩
      have HS20 := hid (HS19.out.below hb20)
      clear hb20
      go_wp2_with fail
      go_meet
      exact ⟨rfl, HS20.out⟩
  obtain ⟨rfl, HS20⟩ := hcut
  clear HS18 CTG HTG CLQ HNQ
  go_wp2_with fail
  refine (COS.out _ HS20.out.t).mono ?_
  rintro e w21 ⟨rfl, hb21⟩
  have HS21 := hid (HS20.out.below hb21)
  clear hb21 HS20 COS
  cases K with
  | false =>
    obtain ⟨rfl, rfl⟩ := HNO.out (by trivial)
    have hnl : nl = 0 := HNL.out.symm
    subst hnl
    clear CGL CRS CLT HGT HRS HNO
    go_wp2_with fail
    go_ret
    exact ⟨rfl, HS21.out.kept⟩
  | true =>
    have hgt := HGT.out (by trivial)
    rw [hgt] at CGL
    replace CGL := hid (show ∀ (x : Option Addr) (cx : Nat) wx, TkRow wx x TT → Calls Tryz.prog 10 #[.slice x nl cx] wx fun e w' => ∃ a' c', e = .returned (.tuple #[.slice a' ts.length c', .bool true]) ∧ TkRow w' a' ts ∧ Below wx.heap.size wx w' from CGL.out)
    rw [HN1.out] at CGL
    clear hgt HGT HNO
    go_wp2_with fail
    refine (CGL.out _ _ _ HS21.out.l).mono ?_
    rintro e w22 ⟨a9, c9, rfl, hr22, hb22⟩
    have HS22 := hid (HS21.out.below hb22)
    have HY22 := hid hr22
    clear hr22 hb22 HS21 CGL
    by_cases hbig : SS.size ≤ 4000
    · have hrs := HRS.out (by trivial) hbig
      rw [hrs] at CRS
      replace CRS := hid (show ∀ wx, Calls Tryz.prog 12 #[.string SS] wx fun e w' => ∃ a' c', e = .returned (.tuple #[.slice a' ts.length c', .bool true]) ∧ TkRow w' a' ts ∧ Below wx.heap.size wx w' from CRS.out)
      rw [HN1.out] at CRS
      have hd : decide ((4000 : Int) < (SS.size : Int)) = false := decide_eq_false (by omega)
      clear hrs HRS hbig
      go_wp2_with fail
      refine (CRS.out _).mono ?_
      rintro e w23 ⟨a10, c10, rfl, hr23, hb23⟩
      have HS23 := hid (HS22.out.below hb23)
      have HY23 := hid (HY22.out.below hb23)
      have HZ23 := hid hr23
      clear hr23 hb23 HS22 HY22 CRS
      have hmx := HMX.out
      go_wp2_with fail
      refine (CLT.out _ _ _ _ _ HY23.out HS23.out.t).mono ?_
      rintro e w24 ⟨rfl, hb24⟩
      have HS24 := hid (HS23.out.below hb24)
      have HZ24 := hid (HZ23.out.below hb24)
      clear hb24 HS23 HY23 HZ23
      go_wp2_with fail
      refine (CLT.out _ _ _ _ _ HZ24.out HS24.out.t).mono ?_
      rintro e w25 ⟨rfl, hb25⟩
      have HS25 := hid (HS24.out.below hb25)
      clear hb25 HS24 HZ24
      go_wp2_with fail
      go_ret
      exact ⟨rfl, HS25.out.kept⟩
    · have hd : decide ((4000 : Int) < (SS.size : Int)) = true := decide_eq_true (by omega)
      clear HRS
      generalize (readT SS).isSome = RB at *
      generalize (readT SS).getD [] = RL at *
      generalize RL.length = nR at *
      have hmx := HMX.out
      go_wp2_with fail
      refine (CRS.out _).mono ?_
      rintro e w23 ⟨a10, c10, rfl, hr23, hb23⟩
      have HS23 := hid (HS22.out.below hb23)
      have HY23 := hid (HY22.out.below hb23)
      clear hr23 hb23 HS22 HY22 CRS
      go_wp2_with fail
      refine (CLT.out _ _ _ _ _ HY23.out HS23.out.t).mono ?_
      rintro e w24 ⟨rfl, hb24⟩
      have HS24 := hid (HS23.out.below hb24)
      clear hb24 HS23 HY23
      go_wp2_with fail
      go_ret
      exact ⟨rfl, HS24.out.kept⟩

end Go.Proofs.YteninofjeidljaaGreat
