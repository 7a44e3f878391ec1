/- Contract of TreeOk of the program. Contract of nodeThere of the program. Contracts of EndOf and elementThere of the program. -/
import Derived.Test.YtkejmifkjgpdjaaM20
import Derived.Test.YtkejmifkjgpdjaaM9
import Derived.Test.YtkejmifkjgpdjaaM11
import Derived.Deep.CutRange
namespace Go.Proofs.Ytkejmifkjgpdjaa
open Go.RowKit
set_option linter.unusedVariables false
set_option linter.unusedSimpArgs false

/-- What TreeOk's loop knows. -/
structure OkSt (ts : List Tk) (w : World) (g i : Nat) (wr : World) : Prop where
  ok : ∀ j, j < i → NodeOk ts j
  pile : ∃ cur v, PileI wr w.heap.size g 0 cur 70 v (pileF ts i)
  bel : Below w.heap.size w wr

set_option maxRecDepth 8000 in
set_option maxHeartbeats 8000000 in
theorem cTreeOkI (a : Option Addr) (cap : Nat) (ts : List Tk) (w : World) (hR : TkRow w a ts) (hn : ts.length ≤ 1048576) (hz : TksSz 1048576 ts) :
    Calls Try.prog 22 #[.slice a ts.length cap] w fun e w' => e = .returned (.bool (treeB ts)) ∧ Below w.heap.size w w' := by
  obtain ⟨V, hV⟩ : ∃ V, treeB ts = V := ⟨_, rfl⟩
  have HV := hid hV
  rw [hV]
  have HF : Hid (¬ TreeP ts → V = false) := fun h => by rw [← HV.out]; exact treeB_f h
  have HT : Hid (TreeP ts → V = true) := fun h => by rw [← HV.out]; exact treeB_t h
  clear hV HV
  have HR := hid hR
  have HZ := hid hz
  have hmf : ∀ (fn : Fn) (first cap : Array Value) (w : World), (Instr.makeFunc fn first cap).run Try.prog w = .ok (.func fn first cap) w := fun _ _ _ _ => rfl
  clear hR hz
  obtain ⟨n, hnn⟩ : ∃ n, ts.length = n := ⟨_, rfl⟩
  have HN := hid hnn
  rw [hnn] at hn ⊢
  clear hnn
  by_cases h0 : n = 0
  case pos =>
    have HW := hid (HF.out (fun h => by have h1 := h.1; rw [HN.out] at h1; omega))
    subst h0
    go_enter Try.func22, Try.ntmps22
    go_wp2_with fail
    go_ret
    exact ⟨by rw [HW.out]; rfl, Below.refl _ _⟩
  have hd0 : ((n : Int) == 0) = false := by simp; omega
  by_cases h50 : n ≤ 50
  case neg =>
    have HW := hid (HF.out (fun h => h50 (by have h2 := h.2.1; rw [HN.out] at h2; exact h2)))
    have hd1 : decide ((50 : Int) < (n : Int)) = true := by simp; omega
    go_enter Try.func22, Try.ntmps22
    go_wp2_with fail
    go_ret
    exact ⟨by rw [HW.out]; rfl, Below.refl _ _⟩
  have hd1 : decide ((50 : Int) < (n : Int)) = false := by simp; omega
  have h0s : 0 < ts.length := by rw [HN.out]; omega
  have hin0 : (0 : Int) < (n : Int) := by omega
  obtain ⟨b, o, aa, ca, rfl, hb, c0, c1, c2, c3, cr⟩ := HR.out 0 h0s
  simp only [Nat.zero_mul, Nat.add_zero] at c0 c1 c2 c3
  have CX := hid (fun wx => cIsText ts[0].kind ts[0].name aa ts[0].attrs.length ca ts[0].text wx (HZ.out _ (List.getElem_mem h0s)).1)
  by_cases hel : ts[0].name.size = 0
  case pos =>
    have HW := hid (HF.out (fun h => by obtain ⟨_, h'⟩ := h.2.2.2.1; exact h' hel))
    rw [decide_eq_true hel] at CX
    clear cr hel
    generalize ts[0].name = nm at *
    generalize ts[0].kind = kd at *
    generalize ts[0].attrs.length = al at *
    generalize ts[0].text = tx at *
    go_enter Try.func22, Try.ntmps22
    go_wp2_with fail
    refine (CX.out _).mono ?_
    rintro e w1 ⟨rfl, hb1⟩
    have HB1 := hid hb1
    clear hb1
    go_wp2_with fail
    go_ret
    exact ⟨by rw [HW.out]; rfl, HB1.out⟩
  have HEL := hid (show elN ts 0 from ⟨h0s, hel⟩)
  rw [decide_eq_false hel] at CX
  have HPA := hid (parI_at h0s)
  clear cr hel
  by_cases hp : ts[0].kind = -1
  case neg =>
    have HW := hid (HF.out (fun h => hp (by rw [← HPA.out]; exact h.2.2.1)))
    have hd2 : (ts[0].kind == -1) = false := by simpa using hp
    clear HPA hp
    generalize ts[0].name = nm at *
    generalize ts[0].kind = kd at *
    generalize ts[0].attrs.length = al at *
    generalize ts[0].text = tx at *
    go_enter Try.func22, Try.ntmps22
    go_wp2_with fail
    refine (CX.out _).mono ?_
    rintro e w1 ⟨rfl, hb1⟩
    have HB1 := hid hb1
    obtain ⟨hc, _⟩ := bcell hb1
    clear hb1
    go_wp2_with fail
    go_ret
    exact ⟨by rw [HW.out]; rfl, HB1.out⟩
  have HP := hid (show parI ts 0 = -1 by rw [HPA.out]; exact hp)
  rw [hp] at c0 CX
  clear HPA hp
  generalize ts[0].name = nm at *
  generalize ts[0].attrs.length = al at *
  generalize ts[0].text = tx at *
  go_enter Try.func22, Try.ntmps22
  go_wp2_with fail
  refine (CX.out _).mono ?_
  rintro e w1 ⟨rfl, hb1⟩
  have HB1 := hid (hb1.alloc hb1.size (.cells #[.slice none 0 0] 70))
  have hsz1 := hb1.size
  obtain ⟨hc, _⟩ := bcell hb1
  clear hb1
  go_wp2_with fail
  clear hc c0 c1 c2 c3 CX
  have M1 := hid (heap_alloc_new w1 (.cells #[.slice none 0 0] 70))
  go_loopw [29] (fun k wr => ∃ i : Nat, k = .int .i64 (i : Int) ∧ i ≤ n ∧ Hid (OkSt ts w w1.heap.size i wr)) (fun k _ => n - (intOf k).toNat)
  case atStart => exact ⟨0, rfl, Nat.zero_le _, ⟨fun j h => by omega, ⟨_, _, hsz1, M1.out, rfl, World.ownsRow_nil _ _ _ _, by decide⟩, HB1.out⟩⟩
  case round =>
    clear M1 HB1
    obtain ⟨i, rfl, hi, ST⟩ := hrel
    by_cases hlt : i < n
    case neg =>
      have hie : i = n := by omega
      have HW := hid (HT.out ⟨by rw [HN.out]; omega, by rw [HN.out]; exact h50, HP.out, HEL.out, fun j hj => ST.out.ok j (by rw [hie, ← HN.out]; exact hj)⟩)
      subst hie
      go_wp2_with fail
      go_ret
      exact ⟨by rw [HW.out]; rfl, ST.out.bel⟩
    have his : i < ts.length := by rw [HN.out]; exact hlt
    have hin : (i : Int) < (n : Int) := by omega
    obtain ⟨cur, pv, hpile⟩ := ST.out.pile
    have HPL := hid hpile
    obtain ⟨b', o', aa, ca, e', hb, k0, k1, k2, k3, cr⟩ := HR.out i his
    obtain ⟨rfl, rfl⟩ : b = b' ∧ o = o' := by cases e'; exact ⟨rfl, rfl⟩
    have c0 := (ST.out.bel.cell (p := ⟨b, o + i * 4, none⟩) hb).trans k0
    have c1 := (ST.out.bel.cell (p := ⟨b, o + i * 4 + 1, none⟩) hb).trans k1
    have c2 := (ST.out.bel.cell (p := ⟨b, o + i * 4 + 2, none⟩) hb).trans k2
    have c3 := (ST.out.bel.cell (p := ⟨b, o + i * 4 + 3, none⟩) hb).trans k3
    clear e' hpile k0 k1 k2 k3
    have HPI := hid (parI_at his)
    have HTT := hid (show nodeB ts[i] = nodeB ts[i] from rfl)
    obtain ⟨t, ht⟩ : ∃ t, ts[i] = t := ⟨_, rfl⟩
    have HZt := hid (HZ.out _ (List.getElem_mem his))
    have HTE := hid ht
    rw [ht] at c0 c1 c2 c3 cr HPI HZt
    obtain ⟨tk, tn, tl, tx⟩ := t
    simp only at c0 c1 c2 c3 cr HPI
    have HO := hid ((Below.refl wr.heap.size wr).alloc (Nat.le_refl _) (.cells #[.int .i64 tk, .string tn, .slice aa tl.length ca, .string tx] 50))
    have M0 := hid (heap_alloc_new wr (.cells #[.int .i64 tk, .string tn, .slice aa tl.length ca, .string tx] 50))
    have hgl := HPL.out.lt
    have hgw := HPL.out.ge
    have hpl := pile_len ts i
    have CD := hid (cPiDown w.heap.size w1.heap.size 0 cur 70 pv (pileF ts i) tk wr.heap.size (wr.alloc (.cells #[.int .i64 tk, .string tn, .slice aa tl.length ca, .string tx] 50)) (HPL.out.below HO.out) (by omega) (by simp) (by omega) (box4 M0.out).1.1)
    have HBA := hid (ST.out.bel.alloc ST.out.bel.size (.cells #[.int .i64 tk, .string tn, .slice aa tl.length ca, .string tx] 50))
    obtain ⟨m, hm⟩ : ∃ m, tl.length = m := ⟨_, rfl⟩
    have HM := hid hm
    rw [hm] at c2 HO M0 CD HBA
    have CR := hid cr
    clear ht cr hm
    go_wp2_with fail
    refine CD.out.mono ?_
    rintro e w2 ⟨⟨r, rfl⟩, ⟨cur2, v2, hp2, _, _⟩, hk2⟩
    have HP2 := hid hp2
    have M2 := hid ((hk2.block wr.heap.size (by simp) (by omega)).trans M0.out)
    have HB2 := hid (HBA.out.trans (hk2.below (by simp; have := ST.out.bel.size; omega) (fun k hk => by subst hk; exact hgw)))
    clear hp2 hk2 CD c0 c1 c2 c3 HPL HO M0 HBA
    rw [← HPI.out] at HP2
    have hu0 := fun j hj => (ST.out.ok j hj).2.1
    have HU := hid hu0
    have hdl := dw_len (notP (parI ts i)) (pileF ts i)
    have CS := hid (cPiSize _ _ _ _ _ _ _ w2 HP2.out)
    obtain ⟨d, hd⟩ : ∃ d, ((pileF ts i).dropWhile (notP (parI ts i))).length = d := ⟨_, rfl⟩
    have HD := hid hd
    rw [hd] at CS hdl
    clear hu0 hd
    by_cases hu : UpOk ts i
    case neg =>
      have HW := hid (HF.out (fun h => hu (h.2.2.2.2 i his).2.1))
      have hip : 0 < i := by
        rcases Nat.eq_zero_or_pos i with h' | h'
        · exact absurd (Or.inl h') hu
        · exact h'
      have hd0' : d = 0 := by
        rcases Nat.eq_zero_or_pos d with h' | h'
        · exact h'
        · exact absurd ((pile_up HU.out hip).2 (by rw [HD.out]; exact h')) hu
      subst hd0'
      go_wp2_with fail
      refine CS.out.mono ?_
      rintro e w3 ⟨rfl, rfl⟩
      go_wp2_with fail
      go_ret
      exact ⟨by rw [HW.out]; rfl, HB2.out⟩
    have HC := hid (pile_ok HU.out hu)
    rw [HD.out] at HC
    by_cases h9 : d < 9
    case neg =>
      have HW := hid (HF.out (fun h => h9 (by have h' := (h.2.2.2.2 i his).2.2.1; rw [HC.out] at h'; omega)))
      have hd9 : decide ((9 : Int) ≤ (d : Int)) = true := by simp; omega
      have hdz : ((d : Int) == 0) = false := by simp; omega
      by_cases hi0 : i = 0
      · exfalso
        have := pile_len ts i
        omega
      have hip : 0 < i := by omega
      go_wp2_with fail
      refine CS.out.mono ?_
      rintro e w3 ⟨rfl, rfl⟩
      go_wp2_with fail
      refine CS.out.mono ?_
      rintro e w3 ⟨rfl, rfl⟩
      go_wp2_with fail
      go_ret
      exact ⟨by rw [HW.out]; rfl, HB2.out⟩
    have hd9 : decide ((9 : Int) ≤ (d : Int)) = false := by simp; omega
    go_upto_region 8 with fail
    go_cut [45] from 30 to 60 (fun v wv => v = .bool false ∧ wv = w2)
    case first =>
      by_cases hi0 : i = 0
      · have hid0 : decide (0 < i) = false := by simp; omega
        clear hi0
        go_wp2_with fail
        refine CS.out.mono ?_
        rintro e w3 ⟨rfl, rfl⟩
        go_wp2_with fail
        go_meet
        exact ⟨rfl, rfl⟩
      · have hip : 0 < i := by omega
        have hdp := (pile_up HU.out hip).1 hu
        rw [HD.out] at hdp
        have hdz : ((d : Int) == 0) = false := by simp; omega
        go_wp2_with fail
        refine CS.out.mono ?_
        rintro e w3 ⟨rfl, rfl⟩
        go_wp2_with fail
        refine CS.out.mono ?_
        rintro e w3 ⟨rfl, rfl⟩
        go_wp2_with fail
        go_meet
        exact ⟨rfl, rfl⟩
    case rest =>
      obtain ⟨rfl, rfl⟩ := hcut
      obtain ⟨⟨x0, x1, x2, x3⟩, _⟩ := box4 M2.out
      clear CS hd9 hdl hpl
      have HRW := hid (HR.out.below HB2.out)
      have CRW := hid (CR.out.below HB2.out)
      have CT := hid (fun wx => cTokenOf ⟨tk, tn, tl, tx⟩ aa ca wx HZt.out)
      have CO := hid (fun wx (h : AtRow wx aa tl) => cTokenOkI (tokOfN ⟨tk, tn, tl, tx⟩) aa ca wx (by rw [tokOfN_attrs]; exact h) (tokOfN_sz HZt.out))
      rw [tokOfN_B] at CO
      have CB := hid (fun wx (h : TkRow wx (some ⟨b, o, none⟩) ts) => cBeside (some ⟨b, o, none⟩) cap ts i wx h his (by rw [HN.out]; exact hn) HZ.out)
      rw [HN.out] at CB
      have HFN : Hid (nodeB ⟨tk, tn, tl, tx⟩ = false → V = false) := fun h => HF.out (fun hh => by
        obtain ⟨⟨_, h1⟩, _⟩ := hh.2.2.2.2 i his
        rw [HTE.out, h] at h1
        cases h1)
      have e3 : tkV ⟨tk, tn, tl, tx⟩ aa ca = .agg #[.int .i64 tk, .string tn, .slice aa m ca, .string tx] := by rw [← HM.out]
      rw [e3] at CT
      generalize tkV (tokOfN ⟨tk, tn, tl, tx⟩) aa ca = TV at *
      clear e3
      cases q1 : nodeB ⟨tk, tn, tl, tx⟩
      · rw [q1] at CO HFN
        have HW := hid (HFN.out rfl)
        clear q1 CB
        go_wp2_with fail
        refine (CT.out _).mono ?_
        rintro e w3 ⟨rfl, hb3⟩
        have HB3 := hid (bb HB2.out hb3)
        have CR3 := hid (CRW.out.below hb3)
        clear hb3
        go_wp2_with fail
        refine (CO.out _ CR3.out).mono ?_
        rintro e w4 ⟨rfl, hb4⟩
        have HB4 := hid (bb HB3.out hb4)
        clear hb4
        go_wp2_with fail
        go_ret
        exact ⟨by rw [HW.out]; rfl, HB4.out⟩
      rw [q1] at CO
      have HQ1 := hid q1
      clear q1 HFN
      cases q2 : twinB ts i
      case true =>
        have HW := hid (HF.out (fun h => by rw [twinB_f (h.2.2.2.2 i his).2.2.2] at q2; cases q2))
        rw [q2] at CB
        clear q2
        go_wp2_with fail
        refine (CT.out _).mono ?_
        rintro e w3 ⟨rfl, hb3⟩
        have HB3 := hid (bb HB2.out hb3)
        have CR3 := hid (CRW.out.below hb3)
        clear hb3
        go_wp2_with fail
        refine (CO.out _ CR3.out).mono ?_
        rintro e w4 ⟨rfl, hb4⟩
        have HB4 := hid (bb HB3.out hb4)
        clear hb4
        go_wp2_with fail
        refine (CB.out _ (HR.out.below HB4.out)).mono ?_
        rintro e w5 ⟨rfl, hb5⟩
        have HB5 := hid (bb HB4.out hb5)
        clear hb5
        go_wp2_with fail
        go_ret
        exact ⟨by rw [HW.out]; rfl, HB5.out⟩
      rw [q2] at CB
      have HOK := hid (show ∀ j, j < i + 1 → NodeOk ts j from fun j hj => by
        rcases Nat.lt_or_eq_of_le (Nat.le_of_lt_succ hj) with h' | rfl
        · exact ST.out.ok j h'
        · exact ⟨⟨his, by rw [HTE.out]; exact HQ1.out⟩, hu, by rw [HC.out]; omega, fun h => by rw [twinB_t h] at q2; cases q2⟩)
      clear q2
      go_wp2_with fail
      refine (CT.out _).mono ?_
      rintro e w3 ⟨rfl, hb3⟩
      have HB3 := hid (bb HB2.out hb3)
      have CR3 := hid (CRW.out.below hb3)
      have M3 := hid (blk_below M2.out hb3)
      have HP3 := hid (HP2.out.below hb3)
      clear hb3 x0 x1 x2 x3
      go_wp2_with fail
      refine (CO.out _ CR3.out).mono ?_
      rintro e w4 ⟨rfl, hb4⟩
      have HB4 := hid (bb HB3.out hb4)
      have M4 := hid (blk_below M3.out hb4)
      have HP4 := hid (HP3.out.below hb4)
      clear hb4
      go_wp2_with fail
      refine (CB.out _ (HR.out.below HB4.out)).mono ?_
      rintro e w5 ⟨rfl, hb5⟩
      have HB5 := hid (bb HB4.out hb5)
      have M5 := hid (blk_below M4.out hb5)
      have HP5 := hid (HP4.out.below hb5)
      obtain ⟨⟨x0, x1, x2, x3⟩, _⟩ := box4 M5.out
      have CX := hid (fun wx => cIsText tk tn aa m ca tx wx HZt.out.1)
      have HEB := hid (elB_at his)
      rw [HTE.out] at HEB
      simp only at HEB
      clear hb5 CT CO CB
      by_cases e1 : tn.size = 0
      · rw [decide_eq_true e1] at CX HEB
        have HPF := hid (show pileF ts (i + 1) = (pileF ts i).dropWhile (notP (parI ts i)) by rw [pileF, HEB.out]; rfl)
        go_wp2_with fail
        refine (CX.out _).mono ?_
        rintro e w6 ⟨rfl, hb6⟩
        have HB6 := hid (bb HB5.out hb6)
        have HP6 := hid (HP5.out.below hb6)
        clear hb6
        go_wp2_with fail
        go_roundw
        case rel => exact ⟨i + 1, by go_num, by omega, ⟨HOK.out, ⟨_, _, by rw [HPF.out]; exact HP6.out⟩, HB6.out⟩⟩
        case measure => simp [intOf]; omega
      · rw [decide_eq_false e1] at CX HEB
        have HPF := hid (show pileF ts (i + 1) = i :: (pileF ts i).dropWhile (notP (parI ts i)) by rw [pileF, HEB.out]; rfl)
        go_wp2_with fail
        refine (CX.out _).mono ?_
        rintro e w6 ⟨rfl, hb6⟩
        have HB6 := hid (bb HB5.out hb6)
        have HP6 := hid (HP5.out.below hb6)
        have CL := hid (cPiLay _ _ _ _ _ _ i _ w6 HP6.out (by rw [HD.out]; omega))
        clear hb6
        go_wp2_with fail
        refine CL.out.mono ?_
        rintro e w7 ⟨rfl, ⟨v7, hp7⟩, hb7⟩
        have HP7 := hid hp7
        have HB7 := hid (HB6.out.trans hb7)
        clear hp7 hb7
        go_wp2_with fail
        go_roundw
        case rel => exact ⟨i + 1, by go_num, by omega, ⟨HOK.out, ⟨_, _, by rw [HPF.out]; exact HP7.out⟩, HB7.out⟩⟩
        case measure => simp [intOf]; omega

end Go.Proofs.Ytkejmifkjgpdjaa

namespace Go.Proofs.Ytkejmifkjgpdjaa
open Go.RowKit
set_option linter.unusedVariables false
set_option linter.unusedSimpArgs false

set_option maxHeartbeats 2000000 in
theorem cThere (a : Option Addr) (cap : Nat) (ts : List Tk) (x : Int) (w : World) (hR : TkRow w a ts) (hn : ts.length ≤ 1048576) (hz : TksSz 1048576 ts) :
    Calls Try.prog 73 #[.slice a ts.length cap, .int .i64 x] w fun e w' => e = .returned (.bool (hasB ts x)) ∧ Below w.heap.size w w' := by
  have C := hid (cTreeOkI a cap ts w hR hn hz)
  obtain ⟨n, hnn⟩ : ∃ n, ts.length = n := ⟨_, rfl⟩
  rw [hasB_eq hnn]
  rw [hnn] at C ⊢
  clear hR hz hn hnn
  generalize treeB ts = B at *
  cases q1 : decide (0 ≤ x)
  · rw [Bool.false_and, Bool.and_false]
    go_enter Try.func73, Try.ntmps73
    go_wp2_with fail
    go_ret
    exact ⟨rfl, Below.refl _ _⟩
  · cases q2 : decide (x < (n : Int))
    · rw [Bool.and_false, Bool.and_false]
      go_enter Try.func73, Try.ntmps73
      go_wp2_with fail
      go_ret
      exact ⟨rfl, Below.refl _ _⟩
    · rw [Bool.and_true, Bool.and_true]
      go_enter Try.func73, Try.ntmps73
      go_wp2_with fail
      refine C.out.mono ?_
      rintro e w1 ⟨rfl, hb1⟩
      have HB1 := hid hb1
      clear hb1
      go_wp2_with fail
      go_ret
      exact ⟨rfl, HB1.out⟩

end Go.Proofs.Ytkejmifkjgpdjaa

namespace Go.Proofs.Ytkejmifkjgpdjaa
open Go.RowKit
set_option linter.unusedVariables false
set_option linter.unusedSimpArgs false

set_option maxHeartbeats 4000000 in
theorem cEndOfI (a : Option Addr) (cap : Nat) (ts : List Tk) (x : Int) (w : World) (hR : TkRow w a ts) (hn : ts.length ≤ 1048576) (hz : TksSz 1048576 ts) :
    Calls Try.prog 77 #[.slice a ts.length cap, .int .i64 x] w fun e w' => e = .returned (.int .i64 (endI ts x)) ∧ Below w.heap.size w w' := by
  have C := hid (cThere a cap ts x w hR hn hz)
  have HR := hid hR
  cases q : hasB ts x
  · have e1 : endI ts x = -1 := by unfold endI; rw [q]; rfl
    rw [e1]
    rw [q] at C
    clear hz hR e1
    generalize ts.length = n at *
    go_enter Try.func77, Try.ntmps77
    go_wp2_with fail
    refine C.out.mono ?_
    rintro e w1 ⟨rfl, hb1⟩
    have HB1 := hid hb1
    clear hb1
    go_wp2_with fail
    go_ret
    exact ⟨rfl, HB1.out⟩
  · obtain ⟨_, k, rfl, hk⟩ := hasB_t q
    have e1 : endI ts (k : Int) = (endN ts k : Int) := by unfold endI; rw [q]; rfl
    rw [e1]
    rw [q] at C
    clear hz hR e1 q
    obtain ⟨V, hV⟩ : ∃ V, endN ts k = V := ⟨_, rfl⟩
    have HV := hid hV
    rw [hV]
    clear hV
    obtain ⟨n, hnn⟩ : ∃ n, ts.length = n := ⟨_, rfl⟩
    have HN := hid hnn
    rw [hnn] at hn hk C ⊢
    clear hnn
    go_enter Try.func77, Try.ntmps77
    go_wp2_with fail
    refine C.out.mono ?_
    rintro e w1 ⟨rfl, hb1⟩
    have HB1 := hid hb1
    have HR1 := hid (HR.out.below hb1)
    clear hb1
    go_wp2_with fail
    go_loop [5] (fun v => ∃ e : Nat, v = .int .i64 (e : Int) ∧ k < e ∧ e ≤ n ∧ Hid (∀ j, k < j → j < e → (k : Int) ≤ parI ts j)) (fun v => n - (intOf v).toNat)
    case atStart => exact ⟨k + 1, by go_num, by omega, by omega, fun j h1 h2 => by omega⟩
    case round =>
      obtain ⟨e, rfl, h1, h2, HA⟩ := hrel
      by_cases hlt : e < n
      · have hes : e < ts.length := by rw [HN.out]; exact hlt
        have hin : (e : Int) < (n : Int) := by omega
        obtain ⟨b, o, rfl, c0, _⟩ := HR1.out.kindAt e hes
        by_cases hp : (k : Int) ≤ parI ts e
        · have HA2 := hid (show ∀ j, k < j → j < e + 1 → (k : Int) ≤ parI ts j from fun j g1 g2 => by
            rcases Nat.lt_or_eq_of_le (Nat.le_of_lt_succ g2) with h' | rfl
            · exact HA.out j g1 h'
            · exact hp)
          generalize parI ts e = P at *
          go_wp2
          go_round
          case rel => exact ⟨e + 1, by go_num, by omega, by omega, HA2.out⟩
          case measure => simp [intOf]; omega
        · have HW := hid (show V = e by rw [← HV.out]; exact endN_is h1 (by rw [HN.out]; exact h2) HA.out (.inr (by omega)))
          have hp' : parI ts e < (k : Int) := by omega
          generalize parI ts e = P at *
          go_wp2
          go_ret
          exact ⟨by rw [HW.out]; rfl, HB1.out⟩
      · have hee : e = n := by omega
        have HW := hid (show V = e by rw [← HV.out]; exact endN_is h1 (by rw [HN.out]; exact h2) HA.out (.inl (by rw [HN.out]; exact hee)))
        subst hee
        go_wp2
        go_ret
        exact ⟨by rw [HW.out]; rfl, HB1.out⟩

set_option maxHeartbeats 2000000 in
theorem g_elemThere (a : Option Addr) (cap : Nat) (ts : List Tk) (x : Int) (w : World) (hR : TkRow w a ts) (hn : ts.length ≤ 1048576) (hz : TksSz 1048576 ts) :
    Calls Try.prog 80 #[.slice a ts.length cap, .int .i64 x] w fun e w' => e = .returned (.bool (elemB ts x)) ∧ Below w.heap.size w w' := by
  have C := hid (cThere a cap ts x w hR hn hz)
  have HR := hid hR
  clear hR
  cases hh : hasB ts x with
  | false =>
    have HE := hid (show elemB ts x = false by unfold elemB; rw [hh]; rfl)
    rw [HE.out]
    rw [hh] at C
    clear hh HE HR hz
    generalize ts.length = n at *
    go_enter Try.func80, Try.ntmps80
    go_wp2_with fail
    refine C.out.mono ?_
    rintro e w1 ⟨rfl, hb1⟩
    have HB1 := hid hb1
    clear hb1 C
    go_wp2_with fail
    go_ret
    exact ⟨rfl, HB1.out⟩
  | true =>
    obtain ⟨hT, k, rfl, hk⟩ := hasB_t hh
    have HE := hid (show elemB ts (k : Int) = !decide (ts[k].name.size = 0) by unfold elemB; rw [hh]; show (true && !decide ((nameI ts k).size = 0)) = _; rw [nameI_at hk]; rfl)
    rw [HE.out]
    rw [hh] at C
    have HROW := hid (fun wx (hb : Below w.heap.size w wx) => (HR.out.below hb) k hk)
    obtain ⟨b, o, _, _, ea, -⟩ := HR.out k hk
    subst ea
    have hkn : (k : Int) < (ts.length : Int) := by omega
    have CI := hid (fun wx aa nA ca => cIsText ts[k].kind ts[k].name aa nA ca ts[k].text wx (hz _ (List.getElem_mem hk)).1)
    clear hh HE HR hz hT
    generalize decide (ts[k].name.size = 0) = D at *
    generalize ts[k].kind = K at *
    generalize ts[k].name = N at *
    generalize ts[k].text = T at *
    generalize ts[k].attrs = A at *
    generalize ts.length = n at *
    go_enter Try.func80, Try.ntmps80
    go_wp2_with fail
    refine C.out.mono ?_
    rintro e w1 ⟨rfl, hb1⟩
    obtain ⟨b', o', aa, ca, e', hb, q0, q1, q2, q3, _⟩ := HROW.out _ hb1
    obtain ⟨rfl, rfl⟩ : b = b' ∧ o = o' := by cases e'; exact ⟨rfl, rfl⟩
    have HB1 := hid hb1
    clear hb1 C e' HROW
    go_wp2_with fail
    refine (CI.out _ _ _ _).mono ?_
    rintro e w2 ⟨rfl, hb2⟩
    have HB2 := hid (bb HB1.out hb2)
    clear hb2
    go_wp2_with fail
    go_ret
    exact ⟨rfl, HB2.out⟩

end Go.Proofs.Ytkejmifkjgpdjaa
