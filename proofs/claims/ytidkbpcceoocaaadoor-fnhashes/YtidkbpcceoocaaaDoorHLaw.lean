/- The law on hashes: whatever is drawn, it answers true. -/
import Derived.Test.YtidkbpcceoocaaaDoorHByte
import Derived.Test.YtidkbpcceoocaaaDoorHClash
import Derived.Test.YtidkbpcceoocaaaDoorHNumM
import Derived.Deep.Cut
namespace Go.Proofs.YtidkbpcceoocaaaDoor
open Go.RowKit
set_option linter.unusedVariables false
set_option linter.unusedSimpArgs false

set_option maxHeartbeats 16000000 in
set_option maxRecDepth 8000 in
theorem law_hashes (a : Option Addr) (len cap : Nat) (w : World) (hcr : CodeB w a len) (hL : Laid w) :
    Calls Tryd.prog 3 #[.slice a len cap] w fun e w' => e = .returned (.bool true) ∧ Below w.heap.size w w' := by
  have HR : Hid (CodeB w a len) := hcr
  have HL : Hid (Laid w) := hL
  clear hcr hL
  by_cases hbig : len ≤ 4096
  · go_enter Tryd.func3, Tryd.ntmps3
    go_wp2_with fail
    refine (cBig_no a len cap _ hbig).mono ?_
    rintro e0 w' ⟨rfl, hw'⟩
    obtain rfl : w = w' := hw'.symm
    have HB : Hid (Below w.heap.size w w) := Below.refl _ _
    go_wp2_with fail
    refine (cDHash a len cap _ hbig (HR.out.below HB.out).row).mono ?_
    rintro e0 wx ⟨s, rfl, hs8, hb⟩
    replace HB : Hid (Below w.heap.size w wx) := HB.out.trans (hb.mono HB.out.size)
    clear hb
    have HI := fun W => cHashI s W (by omega)
    have HSp := fun W => cHashS s W (by omega)
    go_wp2_with fail
    refine (cDClash a len cap _ hbig (HR.out.below HB.out).row).mono ?_
    rintro e0 wx ⟨A, cp, ss, rfl, hst, hsn, hsz, hb⟩
    replace HB : Hid (Below w.heap.size w wx) := HB.out.trans (hb.mono HB.out.size)
    clear hb
    obtain ⟨w3, hw3⟩ : ∃ w3, wx = w3 := ⟨_, rfl⟩
    have HB3 : Hid (Below w3.heap.size w3 wx) := by rw [hw3]; exact Below.refl _ _
    have HST : Hid (StrAt w3 A ss) := by rw [← hw3]; exact hst
    have CI := fun W h hL => cClashI A cp ss W h (fun s hs => Nat.le_trans (hsz s hs) (by decide)) (by omega) hL
    have CS := fun W h => cClashS A cp ss W h (fun s hs => Nat.le_trans (hsz s hs) (by decide)) (by omega)
    generalize clB ss = CB at CI CS
    obtain ⟨n3, hn3⟩ : ∃ n3, ss.length = n3 := ⟨_, rfl⟩
    rw [hn3] at CI CS ⊢
    clear hst hsn hsz hw3 hn3
    go_wp2_with fail
    refine (cDDigits a len cap _ hbig (HR.out.below HB.out).row).mono ?_
    rintro e0 wx ⟨n, rfl, hb⟩
    replace HB3 : Hid (Below w3.heap.size w3 wx) := HB3.out.trans (hb.mono HB3.out.size)
    replace HB : Hid (Below w.heap.size w wx) := HB.out.trans (hb.mono HB.out.size)
    clear hb
    have DI := fun W hL => cDigI n W hL
    have DS := fun W => cDigS n W
    obtain ⟨D, hD⟩ : ∃ D : ByteArray, (⟨(dgL n).toArray⟩ : ByteArray) = D := ⟨_, rfl⟩
    have HD : Hid (D.data.toList = dgL n) := by show D.data.toList = dgL n; rw [← hD]
    rw [hD] at DI DS
    clear hD
    go_wp2_with fail
    refine (DI _ (HL.out.below HB.out)).mono ?_
    rintro e0 wx ⟨rfl, hb⟩
    replace HB3 : Hid (Below w3.heap.size w3 wx) := HB3.out.trans (hb.mono HB3.out.size)
    replace HB : Hid (Below w.heap.size w wx) := HB.out.trans (hb.mono HB.out.size)
    clear hb
    go_wp2_with fail
    refine (cDNumber a len cap _ hbig (HR.out.below HB.out).row).mono ?_
    rintro e0 wx ⟨t, rfl, ht, hb⟩
    replace HB3 : Hid (Below w3.heap.size w3 wx) := HB3.out.trans (hb.mono HB3.out.size)
    replace HB : Hid (Below w.heap.size w wx) := HB.out.trans (hb.mono HB.out.size)
    clear hb
    have NI := fun W => cNumI t W (by omega)
    have NS := fun W => cNumS t W (by omega)
    obtain ⟨T, hT⟩ : ∃ T : Int × Bool, numOf t.data.toList = T := ⟨_, rfl⟩
    rw [hT] at NI NS
    obtain ⟨X, Y⟩ := T
    simp only at NI NS
    have HT : Hid (numOf t.data.toList = (X, Y)) := hT
    clear hT
    go_wp2_with fail
    refine (NI _).mono ?_
    rintro e0 wx ⟨rfl, rfl⟩
    go_wp2_with fail
    refine (NS _).mono ?_
    rintro e0 wx ⟨rfl, rfl⟩
    go_wp2_with fail
    refine (DS _).mono ?_
    rintro e0 wx ⟨rfl, hb⟩
    replace HB3 : Hid (Below w3.heap.size w3 wx) := HB3.out.trans (hb.mono HB3.out.size)
    replace HB : Hid (Below w.heap.size w wx) := HB.out.trans (hb.mono HB.out.size)
    clear hb
    go_wp2_with fail
    refine (HI _).mono ?_
    rintro e0 wx ⟨rfl, hb⟩
    replace HB3 : Hid (Below w3.heap.size w3 wx) := HB3.out.trans (hb.mono HB3.out.size)
    replace HB : Hid (Below w.heap.size w wx) := HB.out.trans (hb.mono HB.out.size)
    clear hb
    go_wp2_with fail
    refine (HSp _).mono ?_
    rintro e0 wx ⟨rfl, rfl⟩
    go_wp2_with fail
    refine (CI _ (HST.out.below HB3.out) (HL.out.below HB.out)).mono ?_
    rintro e0 wx ⟨rfl, hb⟩
    replace HB3 : Hid (Below w3.heap.size w3 wx) := HB3.out.trans (hb.mono HB3.out.size)
    replace HB : Hid (Below w.heap.size w wx) := HB.out.trans (hb.mono HB.out.size)
    clear hb
    go_wp2_with fail
    refine (CS _ (HST.out.below HB3.out)).mono ?_
    rintro e0 wx ⟨rfl, hb⟩
    replace HB3 : Hid (Below w3.heap.size w3 wx) := HB3.out.trans (hb.mono HB3.out.size)
    replace HB : Hid (Below w.heap.size w wx) := HB.out.trans (hb.mono HB.out.size)
    clear hb
    clear HB3 HST CI CS NI NS DS HI HSp DI
    go_upto_region 12 with fail
    go_cut [72] from 66 (fun c wv => c = .bool false ∧ Below w.heap.size w wv)
    case first =>
      cases Y with
      | false =>
        go_wp2_with fail
        go_meet
        exact ⟨rfl, HB.out⟩
      | true =>
        have hdx := num_dg HT.out
        have DX := fun W hL => cDigI X W hL
        rw [hdx] at DX
        clear hdx
        go_wp2_with fail
        refine (DX _ (HL.out.below HB.out)).mono ?_
        rintro e0 wv ⟨rfl, hb⟩
        have HBv := hide (bt HB.out hb)
        clear hb DX
        go_wp2_with fail
        go_meet
        exact ⟨rfl, HBv.out⟩
    case rest =>
      clear HT HB
      obtain ⟨rfl, hbc⟩ := hcut
      obtain ⟨wx, hwx⟩ : ∃ wx, wc = wx := ⟨_, rfl⟩
      rw [hwx] at hbc ⊢
      clear hwx
      have HB : Hid (Below w.heap.size w wx) := hbc
      have HB0 := HB
      clear hbc
      go_wp2_with fail
      refine upon_ex (bytes_make _ s (by omega)) ?_
      rintro _ wy ⟨bc, rfl, hcb, hb⟩
      obtain ⟨g, hg⟩ : ∃ g, wx.heap.size = g := ⟨_, rfl⟩
      rw [hg] at hcb
      replace HB : Hid (Below w.heap.size w wy) := HB.out.trans (hb.mono HB.out.size)
      have HGB : Hid (w.heap.size ≤ g) := by show w.heap.size ≤ g; rw [← hg]; exact HB0.out.size
      rw [hg]
      clear hb hg HB0
      have hsl : s.data.toList.length = s.size := (sz s).symm
      by_cases hs0 : s.size = 0
      · have hsi : ¬ (0 : Int) < (s.size : Int) := by omega
        clear hcb
        have hdc : dgL n = [] ∨ dgL n ≠ [] := Decidable.em _
        rcases hdc with hd | hd
        · have hd0 : D = ⟨#[]⟩ := strEmpty D (HD.out.trans hd)
          subst hd0
          have hr := dg_nil hd
          clear hd HD
          rcases hr with hr | hr
          · go_wp2_with fail
            go_ret
            exact ⟨rfl, HB.out⟩
          · have hr2 : ¬ n < 0 := by omega
            go_wp2_with fail
            go_ret
            exact ⟨rfl, HB.out⟩
        · obtain ⟨q1, q2, q3, q4⟩ := dg_num hd
          rw [← HD.out] at hd q1 q2
          obtain ⟨e1, e2⟩ := str_ne D hd
          have hds : D.size = 10 := by rw [sz]; exact q2
          have NI := fun W => cNumI D W (by omega)
          rw [q1] at NI
          simp only at NI
          have hdi : ((D.size : Int) == 10) = true := by rw [hds]; rfl
          clear hd q1 q2 HD
          go_wp2_with fail
          refine (NI _).mono ?_
          rintro e0 wx ⟨rfl, rfl⟩
          go_wp2_with fail
          go_ret
          exact ⟨rfl, HB.out⟩
      · have hsi : (0 : Int) < (s.size : Int) := by omega
        have HCB : Hid (CellsB wy g s.data.toList) := hcb
        clear hcb
        go_wp2_with fail
        refine (cPick 1 s.size a len cap _ (by decide) (by omega) (by omega) hbig (HR.out.below HB.out)).mono ?_
        rintro e0 wx ⟨x, rfl, hx, rfl⟩
        go_wp2_with fail
        refine (cPick 2 256 a len cap _ (by decide) (by decide) (by decide) hbig (HR.out.below HB.out)).mono ?_
        rintro e0 wx ⟨y, rfl, hy, rfl⟩
        have hxl : x < s.data.toList.length := by omega
        obtain ⟨c1, f1⟩ := HCB.out.2 x hxl
        have hxi : (x : Int) < (s.size : Int) := by omega
        obtain ⟨yb, hyb⟩ : ∃ yb : UInt8, UInt8.ofNat y = yb := ⟨_, rfl⟩
        have hyn : y = yb.toNat := by rw [← hyb, UInt8.toNat_ofNat_of_lt' (by exact hy)]
        subst hyn
        clear hyb
        have hyw : IntKind.u8.wrap (yb.toNat : Int) = (yb.toNat : Int) := IntWalk.u8_in _ (by have := yb.toNat_lt; omega)
        have HCS : Hid (CellsB (wx.setCell ⟨g, x, none⟩ (.int .u8 (yb.toNat : Int))) g (s.data.toList.set x yb)) := HCB.out.set x yb hxl
        have HBS : Hid (Below w.heap.size w (wx.setCell ⟨g, x, none⟩ (.int .u8 (yb.toNat : Int)))) := HB.out.setCell (p := ⟨g, x, none⟩) HGB.out _
        have hse : s.data.toList.length = s.size := hsl
        have HHX : Hid (s.data.toList.set x yb ≠ s.data.toList → hsL (s.data.toList.set x yb) ≠ hsL s.data.toList) := fun hn => hsL_set _ _ _ hxl (fun e => hn (by rw [← e]; exact List.set_getElem_self hxl))
        clear HCB HB
        go_wp2_with fail
        clear c1 f1 hyw
        obtain ⟨wz, hwz⟩ : ∃ wz, wx.setCell ⟨g, x, none⟩ (.int .u8 (yb.toNat : Int)) = wz := ⟨_, rfl⟩
        rw [hwz] at HCS HBS ⊢
        clear hwz
        obtain ⟨l, hl⟩ : ∃ l, s.data.toList.set x yb = l := ⟨_, rfl⟩
        have hll : l.length = s.size := by rw [← hl, List.length_set]; exact hsl
        rw [hl] at HCS HHX
        clear hl
        obtain ⟨X2, hX2⟩ : ∃ X2 : ByteArray, (⟨l.toArray⟩ : ByteArray) = X2 := ⟨_, rfl⟩
        have hXl : X2.data.toList = l := by rw [← hX2]
        have HEC : Hid (∀ W, CellsB W g l → (convert 22 9 (.slice (some ⟨g, 0, none⟩) s.size bc)).run Tryd.prog W = .ok (.string X2) W) := fun W h => by rw [← hX2]; exact conv_cells W g bc s.size l h hll
        have z1 : s.size ≤ 1048576 := by omega
        have z2 : X2.size ≤ 1048576 := by rw [sz, hXl, hll]; omega
        have HNE : Hid (s ≠ X2 → hsL s.data.toList ≠ hsL X2.data.toList) := fun hn e => by
          rw [hXl] at e
          exact HHX.out (fun e2 => hn (ByteArray.ext (Array.toList_inj.1 (by rw [hXl, e2])))) e.symm
        have CP : ∀ W B, StrAt W (some ⟨B, 0, none⟩) [s, X2] → Laid W → Calls Tryd.prog 17 #[.slice (some ⟨B, 0, none⟩) 2 2] W fun e w' => e = .returned (.bool false) ∧ Below W.heap.size W w' := fun W B h hL => by
          have := cClashI (some ⟨B, 0, none⟩) 2 [s, X2] W h (fun q hq => by
            simp only [List.mem_cons, List.not_mem_nil, or_false] at hq
            rcases hq with rfl | rfl <;> assumption) (by simp) hL
          rw [clB_pair s X2 HNE.out] at this
          exact this
        clear hX2 hXl HHX hll
        go_cut [105] from 88 (fun c wv => c = .bool false ∧ Below w.heap.size w wv)
        case first =>
          have ec := HEC.out wz.drew HCS.out
          have HBc := hide ((HBS.out.alloc HBS.out.size (.cells #[.string s, .string X2] 9)).drew)
          have HCc := hide ((HCS.out.below ((Below.refl _ wz).alloc (Nat.le_refl _) (.cells #[.string s, .string X2] 9))).drew)
          have HSTR := hide (strAt2 wz s X2)
          clear HCS HBS hs0 hsi hse hsl hxl hxi hx
          obtain ⟨P, hP⟩ : ∃ P : Bool, (X2.toList == s.toList) = P := ⟨_, rfl⟩
          have hq1 : (((hsL X2.data.toList : Nat) : Int) == ((hsL s.data.toList : Nat) : Int)) = P := by
            rw [← hP, str_beq]
            by_cases hXs : X2 = s
            · rw [hXs]
              simp
            · rw [decide_eq_false hXs, beq_eq_false_iff_ne]
              intro e
              exact HNE.out (fun e2 => hXs e2.symm) (by omega)
          go_region_with (first
          | (go_at_call 17; refine (CP _ _ HSTR.out (HL.out.below HBc.out)).mono ?_; rintro e w5 ⟨rfl, hb5⟩; replace HBc := hide (bt HBc.out hb5); replace HCc := hide (HCc.out.below hb5); have ec5 := HEC.out w5 HCc.out; clear hb5)
          | (go_at_call 15; refine (cHashI _ _ (by assumption)).mono ?_; rintro e w6 ⟨rfl, hb6⟩; replace HBc := hide (bt HBc.out hb6); replace HCc := hide (HCc.out.below hb6); have ec6 := HEC.out w6 HCc.out; clear hb6))
          all_goals (go_wp2_with fail; go_meet; exact ⟨rfl, HBc.out⟩)
        case rest =>
          clear HEC CP HCS HBS HNE
          obtain ⟨rfl, hbc⟩ := hcut
          have HB : Hid (Below w.heap.size w wc) := hbc
          clear hbc
          have hdc : dgL n = [] ∨ dgL n ≠ [] := Decidable.em _
          rcases hdc with hd | hd
          · have hd0 : D = ⟨#[]⟩ := strEmpty D (HD.out.trans hd)
            subst hd0
            have hr := dg_nil hd
            clear hd HD
            rcases hr with hr | hr
            · go_wp2_with fail
              go_ret
              exact ⟨rfl, HB.out⟩
            · have hr2 : ¬ n < 0 := by omega
              go_wp2_with fail
              go_ret
              exact ⟨rfl, HB.out⟩
          · obtain ⟨q1, q2, q3, q4⟩ := dg_num hd
            rw [← HD.out] at hd q1 q2
            obtain ⟨e1, e2⟩ := str_ne D hd
            have hds : D.size = 10 := by rw [sz]; exact q2
            have NI := fun W => cNumI D W (by omega)
            rw [q1] at NI
            simp only at NI
            have hdi : ((D.size : Int) == 10) = true := by rw [hds]; rfl
            clear hd q1 q2 HD
            go_wp2_with fail
            refine (NI _).mono ?_
            rintro e0 wx ⟨rfl, rfl⟩
            go_wp2_with fail
            go_ret
            exact ⟨rfl, HB.out⟩
  · go_enter Tryd.func3, Tryd.ntmps3
    go_wp2_with fail
    refine (cBig_yes a len cap _ hbig).mono ?_
    rintro e0 w' ⟨rfl, hw'⟩
    obtain rfl : w = w' := hw'.symm
    go_wp2_with fail
    go_ret
    exact ⟨rfl, Below.refl _ _⟩

end Go.Proofs.YtidkbpcceoocaaaDoor
