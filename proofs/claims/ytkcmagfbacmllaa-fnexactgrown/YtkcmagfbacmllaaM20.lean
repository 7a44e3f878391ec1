/- Contract of TreeOk of the program. Families (plain mathematics of promise 8): a kid ends where the next one begins, the first stands right behind, the last ends where its parent ends. What is told as tokens grows again, and what has grown is told as the same tokens (plain mathematics of promise 8). -/
import Derived.Test.YtkcmagfbacmllaaM19
import Derived.Test.YtkcmagfbacmllaaM9
import Derived.Test.YtkcmagfbacmllaaM7
import Derived.Test.YtkcmagfbacmllaaM15
import Derived.Test.YtkcmagfbacmllaaM8
import Derived.Deep.CutRange
namespace Go.Proofs.Ytkcmagfbacmllaa
open Go.RowKit
set_option linter.unusedVariables false
set_option linter.unusedSimpArgs false

/-- What TreeOk's loop knows. -/
structure OkSt (ts : List Tk) (w : World) (g i : Nat) (wr : World) : Prop where
  ok : ∀ j, j < i → NodeOk ts j
  pile : ∃ cur v, PileI wr w.heap.size g 0 cur 72 v (pileF ts i)
  bel : Below w.heap.size w wr

set_option maxRecDepth 8000 in
set_option maxHeartbeats 8000000 in
theorem cTreeOkI (a : Option Addr) (cap : Nat) (ts : List Tk) (w : World) (hR : TkRow w a ts) (hn : ts.length ≤ 1048576) (hz : TksSz 1048576 ts) :
    Calls Try.prog 20 #[.slice a ts.length cap] w fun e w' => e = .returned (.bool (treeB ts)) ∧ Below w.heap.size w w' := by
  obtain ⟨V, hV⟩ : ∃ V, treeB ts = V := ⟨_, rfl⟩
  have HV := hid hV
  rw [hV]
  have HF : Hid (¬ TreeP ts → V = false) := fun h => by rw [← HV.out]; exact treeB_f h
  have HT : Hid (TreeP ts → V = true) := fun h => by rw [← HV.out]; exact treeB_t h
  clear hV HV
  have HR := hid hR
  have HZ := hid hz
  have hmf : ∀ (fn : Fn) (first cap : Array Value) (w : World), (Instr.makeFunc fn first cap).run Try.prog w = .ok (.func fn first cap) w := fun _ _ _ _ => rfl
  clear hR hz
  obtain ⟨n, hnn⟩ : ∃ n, ts.length = n := ⟨_, rfl⟩
  have HN := hid hnn
  rw [hnn] at hn ⊢
  clear hnn
  by_cases h0 : n = 0
  case pos =>
    have HW := hid (HF.out (fun h => by have h1 := h.1; rw [HN.out] at h1; omega))
    subst h0
    go_enter Try.func20, Try.ntmps20
    go_wp2_with fail
    go_ret
    exact ⟨by rw [HW.out]; rfl, Below.refl _ _⟩
  have hd0 : ((n : Int) == 0) = false := by simp; omega
  by_cases h50 : n ≤ 50
  case neg =>
    have HW := hid (HF.out (fun h => h50 (by have h2 := h.2.1; rw [HN.out] at h2; exact h2)))
    have hd1 : decide ((50 : Int) < (n : Int)) = true := by simp; omega
    go_enter Try.func20, Try.ntmps20
    go_wp2_with fail
    go_ret
    exact ⟨by rw [HW.out]; rfl, Below.refl _ _⟩
  have hd1 : decide ((50 : Int) < (n : Int)) = false := by simp; omega
  have h0s : 0 < ts.length := by rw [HN.out]; omega
  have hin0 : (0 : Int) < (n : Int) := by omega
  obtain ⟨b, o, aa, ca, rfl, hb, c0, c1, c2, c3, cr⟩ := HR.out 0 h0s
  simp only [Nat.zero_mul, Nat.add_zero] at c0 c1 c2 c3
  have CX := hid (fun wx => cIsText ts[0].kind ts[0].name aa ts[0].attrs.length ca ts[0].text wx (HZ.out _ (List.getElem_mem h0s)).1)
  by_cases hel : ts[0].name.size = 0
  case pos =>
    have HW := hid (HF.out (fun h => by obtain ⟨_, h'⟩ := h.2.2.2.1; exact h' hel))
    rw [decide_eq_true hel] at CX
    clear cr hel
    generalize ts[0].name = nm at *
    generalize ts[0].kind = kd at *
    generalize ts[0].attrs.length = al at *
    generalize ts[0].text = tx at *
    go_enter Try.func20, Try.ntmps20
    go_wp2_with fail
    refine (CX.out _).mono ?_
    rintro e w1 ⟨rfl, hb1⟩
    have HB1 := hid hb1
    clear hb1
    go_wp2_with fail
    go_ret
    exact ⟨by rw [HW.out]; rfl, HB1.out⟩
  have HEL := hid (show elN ts 0 from ⟨h0s, hel⟩)
  rw [decide_eq_false hel] at CX
  have HPA := hid (parI_at h0s)
  clear cr hel
  by_cases hp : ts[0].kind = -1
  case neg =>
    have HW := hid (HF.out (fun h => hp (by rw [← HPA.out]; exact h.2.2.1)))
    have hd2 : (ts[0].kind == -1) = false := by simpa using hp
    clear HPA hp
    generalize ts[0].name = nm at *
    generalize ts[0].kind = kd at *
    generalize ts[0].attrs.length = al at *
    generalize ts[0].text = tx at *
    go_enter Try.func20, Try.ntmps20
    go_wp2_with fail
    refine (CX.out _).mono ?_
    rintro e w1 ⟨rfl, hb1⟩
    have HB1 := hid hb1
    obtain ⟨hc, _⟩ := bcell hb1
    clear hb1
    go_wp2_with fail
    go_ret
    exact ⟨by rw [HW.out]; rfl, HB1.out⟩
  have HP := hid (show parI ts 0 = -1 by rw [HPA.out]; exact hp)
  rw [hp] at c0 CX
  clear HPA hp
  generalize ts[0].name = nm at *
  generalize ts[0].attrs.length = al at *
  generalize ts[0].text = tx at *
  go_enter Try.func20, Try.ntmps20
  go_wp2_with fail
  refine (CX.out _).mono ?_
  rintro e w1 ⟨rfl, hb1⟩
  have HB1 := hid (hb1.alloc hb1.size (.cells #[.slice none 0 0] 72))
  have hsz1 := hb1.size
  obtain ⟨hc, _⟩ := bcell hb1
  clear hb1
  go_wp2_with fail
  clear hc c0 c1 c2 c3 CX
  have M1 := hid (heap_alloc_new w1 (.cells #[.slice none 0 0] 72))
  go_loopw [29] (fun k wr => ∃ i : Nat, k = .int .i64 (i : Int) ∧ i ≤ n ∧ Hid (OkSt ts w w1.heap.size i wr)) (fun k _ => n - (intOf k).toNat)
  case atStart => exact ⟨0, rfl, Nat.zero_le _, ⟨fun j h => by omega, ⟨_, _, hsz1, M1.out, rfl, World.ownsRow_nil _ _ _ _, by decide⟩, HB1.out⟩⟩
  case round =>
    clear M1 HB1
    obtain ⟨i, rfl, hi, ST⟩ := hrel
    by_cases hlt : i < n
    case neg =>
      have hie : i = n := by omega
      have HW := hid (HT.out ⟨by rw [HN.out]; omega, by rw [HN.out]; exact h50, HP.out, HEL.out, fun j hj => ST.out.ok j (by rw [hie, ← HN.out]; exact hj)⟩)
      subst hie
      go_wp2_with fail
      go_ret
      exact ⟨by rw [HW.out]; rfl, ST.out.bel⟩
    have his : i < ts.length := by rw [HN.out]; exact hlt
    have hin : (i : Int) < (n : Int) := by omega
    obtain ⟨cur, pv, hpile⟩ := ST.out.pile
    have HPL := hid hpile
    obtain ⟨b', o', aa, ca, e', hb, k0, k1, k2, k3, cr⟩ := HR.out i his
    obtain ⟨rfl, rfl⟩ : b = b' ∧ o = o' := by cases e'; exact ⟨rfl, rfl⟩
    have c0 := (ST.out.bel.cell (p := ⟨b, o + i * 4, none⟩) hb).trans k0
    have c1 := (ST.out.bel.cell (p := ⟨b, o + i * 4 + 1, none⟩) hb).trans k1
    have c2 := (ST.out.bel.cell (p := ⟨b, o + i * 4 + 2, none⟩) hb).trans k2
    have c3 := (ST.out.bel.cell (p := ⟨b, o + i * 4 + 3, none⟩) hb).trans k3
    clear e' hpile k0 k1 k2 k3
    have HPI := hid (parI_at his)
    have HTT := hid (show nodeB ts[i] = nodeB ts[i] from rfl)
    obtain ⟨t, ht⟩ : ∃ t, ts[i] = t := ⟨_, rfl⟩
    have HZt := hid (HZ.out _ (List.getElem_mem his))
    have HTE := hid ht
    rw [ht] at c0 c1 c2 c3 cr HPI HZt
    obtain ⟨tk, tn, tl, tx⟩ := t
    simp only at c0 c1 c2 c3 cr HPI
    have HO := hid ((Below.refl wr.heap.size wr).alloc (Nat.le_refl _) (.cells #[.int .i64 tk, .string tn, .slice aa tl.length ca, .string tx] 34))
    have M0 := hid (heap_alloc_new wr (.cells #[.int .i64 tk, .string tn, .slice aa tl.length ca, .string tx] 34))
    have hgl := HPL.out.lt
    have hgw := HPL.out.ge
    have hpl := pile_len ts i
    have CD := hid (cPiDown w.heap.size w1.heap.size 0 cur 72 pv (pileF ts i) tk wr.heap.size (wr.alloc (.cells #[.int .i64 tk, .string tn, .slice aa tl.length ca, .string tx] 34)) (HPL.out.below HO.out) (by omega) (by simp) (by omega) (box4 M0.out).1.1)
    have HBA := hid (ST.out.bel.alloc ST.out.bel.size (.cells #[.int .i64 tk, .string tn, .slice aa tl.length ca, .string tx] 34))
    obtain ⟨m, hm⟩ : ∃ m, tl.length = m := ⟨_, rfl⟩
    have HM := hid hm
    rw [hm] at c2 HO M0 CD HBA
    have CR := hid cr
    clear ht cr hm
    go_wp2_with fail
    refine CD.out.mono ?_
    rintro e w2 ⟨⟨r, rfl⟩, ⟨cur2, v2, hp2, _, _⟩, hk2⟩
    have HP2 := hid hp2
    have M2 := hid ((hk2.block wr.heap.size (by simp) (by omega)).trans M0.out)
    have HB2 := hid (HBA.out.trans (hk2.below (by simp; have := ST.out.bel.size; omega) (fun k hk => by subst hk; exact hgw)))
    clear hp2 hk2 CD c0 c1 c2 c3 HPL HO M0 HBA
    rw [← HPI.out] at HP2
    have hu0 := fun j hj => (ST.out.ok j hj).2.1
    have HU := hid hu0
    have hdl := dw_len (notP (parI ts i)) (pileF ts i)
    have CS := hid (cPiSize _ _ _ _ _ _ _ w2 HP2.out)
    obtain ⟨d, hd⟩ : ∃ d, ((pileF ts i).dropWhile (notP (parI ts i))).length = d := ⟨_, rfl⟩
    have HD := hid hd
    rw [hd] at CS hdl
    clear hu0 hd
    by_cases hu : UpOk ts i
    case neg =>
      have HW := hid (HF.out (fun h => hu (h.2.2.2.2 i his).2.1))
      have hip : 0 < i := by
        rcases Nat.eq_zero_or_pos i with h' | h'
        · exact absurd (Or.inl h') hu
        · exact h'
      have hd0' : d = 0 := by
        rcases Nat.eq_zero_or_pos d with h' | h'
        · exact h'
        · exact absurd ((pile_up HU.out hip).2 (by rw [HD.out]; exact h')) hu
      subst hd0'
      go_wp2_with fail
      refine CS.out.mono ?_
      rintro e w3 ⟨rfl, rfl⟩
      go_wp2_with fail
      go_ret
      exact ⟨by rw [HW.out]; rfl, HB2.out⟩
    have HC := hid (pile_ok HU.out hu)
    rw [HD.out] at HC
    by_cases h9 : d < 9
    case neg =>
      have HW := hid (HF.out (fun h => h9 (by have h' := (h.2.2.2.2 i his).2.2.1; rw [HC.out] at h'; omega)))
      have hd9 : decide ((9 : Int) ≤ (d : Int)) = true := by simp; omega
      have hdz : ((d : Int) == 0) = false := by simp; omega
      by_cases hi0 : i = 0
      · exfalso
        have := pile_len ts i
        omega
      have hip : 0 < i := by omega
      go_wp2_with fail
      refine CS.out.mono ?_
      rintro e w3 ⟨rfl, rfl⟩
      go_wp2_with fail
      refine CS.out.mono ?_
      rintro e w3 ⟨rfl, rfl⟩
      go_wp2_with fail
      go_ret
      exact ⟨by rw [HW.out]; rfl, HB2.out⟩
    have hd9 : decide ((9 : Int) ≤ (d : Int)) = false := by simp; omega
    go_upto_region 8 with fail
    go_cut [45] from 30 to 60 (fun v wv => v = .bool false ∧ wv = w2)
    case first =>
      by_cases hi0 : i = 0
      · have hid0 : decide (0 < i) = false := by simp; omega
        clear hi0
        go_wp2_with fail
        refine CS.out.mono ?_
        rintro e w3 ⟨rfl, rfl⟩
        go_wp2_with fail
        go_meet
        exact ⟨rfl, rfl⟩
      · have hip : 0 < i := by omega
        have hdp := (pile_up HU.out hip).1 hu
        rw [HD.out] at hdp
        have hdz : ((d : Int) == 0) = false := by simp; omega
        go_wp2_with fail
        refine CS.out.mono ?_
        rintro e w3 ⟨rfl, rfl⟩
        go_wp2_with fail
        refine CS.out.mono ?_
        rintro e w3 ⟨rfl, rfl⟩
        go_wp2_with fail
        go_meet
        exact ⟨rfl, rfl⟩
    case rest =>
      obtain ⟨rfl, rfl⟩ := hcut
      obtain ⟨⟨x0, x1, x2, x3⟩, _⟩ := box4 M2.out
      clear CS hd9 hdl hpl
      have HRW := hid (HR.out.below HB2.out)
      have CRW := hid (CR.out.below HB2.out)
      have CT := hid (fun wx => cTokenOf ⟨tk, tn, tl, tx⟩ aa ca wx HZt.out)
      have CO := hid (fun wx (h : AtRow wx aa tl) => cTokenOkI (tokOfN ⟨tk, tn, tl, tx⟩) aa ca wx (by rw [tokOfN_attrs]; exact h) (tokOfN_sz HZt.out))
      rw [tokOfN_B] at CO
      have CB := hid (fun wx (h : TkRow wx (some ⟨b, o, none⟩) ts) => cBeside (some ⟨b, o, none⟩) cap ts i wx h his (by rw [HN.out]; exact hn) HZ.out)
      rw [HN.out] at CB
      have HFN : Hid (nodeB ⟨tk, tn, tl, tx⟩ = false → V = false) := fun h => HF.out (fun hh => by
        obtain ⟨⟨_, h1⟩, _⟩ := hh.2.2.2.2 i his
        rw [HTE.out, h] at h1
        cases h1)
      have e3 : tkV ⟨tk, tn, tl, tx⟩ aa ca = .agg #[.int .i64 tk, .string tn, .slice aa m ca, .string tx] := by rw [← HM.out]
      rw [e3] at CT
      generalize tkV (tokOfN ⟨tk, tn, tl, tx⟩) aa ca = TV at *
      clear e3
      cases q1 : nodeB ⟨tk, tn, tl, tx⟩
      · rw [q1] at CO HFN
        have HW := hid (HFN.out rfl)
        clear q1 CB
        go_wp2_with fail
        refine (CT.out _).mono ?_
        rintro e w3 ⟨rfl, hb3⟩
        have HB3 := hid (bb HB2.out hb3)
        have CR3 := hid (CRW.out.below hb3)
        clear hb3
        go_wp2_with fail
        refine (CO.out _ CR3.out).mono ?_
        rintro e w4 ⟨rfl, hb4⟩
        have HB4 := hid (bb HB3.out hb4)
        clear hb4
        go_wp2_with fail
        go_ret
        exact ⟨by rw [HW.out]; rfl, HB4.out⟩
      rw [q1] at CO
      have HQ1 := hid q1
      clear q1 HFN
      cases q2 : twinB ts i
      case true =>
        have HW := hid (HF.out (fun h => by rw [twinB_f (h.2.2.2.2 i his).2.2.2] at q2; cases q2))
        rw [q2] at CB
        clear q2
        go_wp2_with fail
        refine (CT.out _).mono ?_
        rintro e w3 ⟨rfl, hb3⟩
        have HB3 := hid (bb HB2.out hb3)
        have CR3 := hid (CRW.out.below hb3)
        clear hb3
        go_wp2_with fail
        refine (CO.out _ CR3.out).mono ?_
        rintro e w4 ⟨rfl, hb4⟩
        have HB4 := hid (bb HB3.out hb4)
        clear hb4
        go_wp2_with fail
        refine (CB.out _ (HR.out.below HB4.out)).mono ?_
        rintro e w5 ⟨rfl, hb5⟩
        have HB5 := hid (bb HB4.out hb5)
        clear hb5
        go_wp2_with fail
        go_ret
        exact ⟨by rw [HW.out]; rfl, HB5.out⟩
      rw [q2] at CB
      have HOK := hid (show ∀ j, j < i + 1 → NodeOk ts j from fun j hj => by
        rcases Nat.lt_or_eq_of_le (Nat.le_of_lt_succ hj) with h' | rfl
        · exact ST.out.ok j h'
        · exact ⟨⟨his, by rw [HTE.out]; exact HQ1.out⟩, hu, by rw [HC.out]; omega, fun h => by rw [twinB_t h] at q2; cases q2⟩)
      clear q2
      go_wp2_with fail
      refine (CT.out _).mono ?_
      rintro e w3 ⟨rfl, hb3⟩
      have HB3 := hid (bb HB2.out hb3)
      have CR3 := hid (CRW.out.below hb3)
      have M3 := hid (blk_below M2.out hb3)
      have HP3 := hid (HP2.out.below hb3)
      clear hb3 x0 x1 x2 x3
      go_wp2_with fail
      refine (CO.out _ CR3.out).mono ?_
      rintro e w4 ⟨rfl, hb4⟩
      have HB4 := hid (bb HB3.out hb4)
      have M4 := hid (blk_below M3.out hb4)
      have HP4 := hid (HP3.out.below hb4)
      clear hb4
      go_wp2_with fail
      refine (CB.out _ (HR.out.below HB4.out)).mono ?_
      rintro e w5 ⟨rfl, hb5⟩
      have HB5 := hid (bb HB4.out hb5)
      have M5 := hid (blk_below M4.out hb5)
      have HP5 := hid (HP4.out.below hb5)
      obtain ⟨⟨x0, x1, x2, x3⟩, _⟩ := box4 M5.out
      have CX := hid (fun wx => cIsText tk tn aa m ca tx wx HZt.out.1)
      have HEB := hid (elB_at his)
      rw [HTE.out] at HEB
      simp only at HEB
      clear hb5 CT CO CB
      by_cases e1 : tn.size = 0
      · rw [decide_eq_true e1] at CX HEB
        have HPF := hid (show pileF ts (i + 1) = (pileF ts i).dropWhile (notP (parI ts i)) by rw [pileF, HEB.out]; rfl)
        go_wp2_with fail
        refine (CX.out _).mono ?_
        rintro e w6 ⟨rfl, hb6⟩
        have HB6 := hid (bb HB5.out hb6)
        have HP6 := hid (HP5.out.below hb6)
        clear hb6
        go_wp2_with fail
        go_roundw
        case rel => exact ⟨i + 1, by go_num, by omega, ⟨HOK.out, ⟨_, _, by rw [HPF.out]; exact HP6.out⟩, HB6.out⟩⟩
        case measure => simp [intOf]; omega
      · rw [decide_eq_false e1] at CX HEB
        have HPF := hid (show pileF ts (i + 1) = i :: (pileF ts i).dropWhile (notP (parI ts i)) by rw [pileF, HEB.out]; rfl)
        go_wp2_with fail
        refine (CX.out _).mono ?_
        rintro e w6 ⟨rfl, hb6⟩
        have HB6 := hid (bb HB5.out hb6)
        have HP6 := hid (HP5.out.below hb6)
        have CL := hid (cPiLay _ _ _ _ _ _ i _ w6 HP6.out (by rw [HD.out]; omega))
        clear hb6
        go_wp2_with fail
        refine CL.out.mono ?_
        rintro e w7 ⟨rfl, ⟨v7, hp7⟩, hb7⟩
        have HP7 := hid hp7
        have HB7 := hid (HB6.out.trans hb7)
        clear hp7 hb7
        go_wp2_with fail
        go_roundw
        case rel => exact ⟨i + 1, by go_num, by omega, ⟨HOK.out, ⟨_, _, by rw [HPF.out]; exact HP7.out⟩, HB7.out⟩⟩
        case measure => simp [intOf]; omega

end Go.Proofs.Ytkcmagfbacmllaa

namespace Go.Proofs.Ytkcmagfbacmllaa
set_option linter.unusedVariables false

theorem TreeP.up {ts : List Tk} (h : TreeP ts) (j : Nat) (hj : j < ts.length) : UpOk ts j := (h.2.2.2.2 j hj).2.1

theorem TreeP.linked {ts : List Tk} (h : TreeP ts) (m : Nat) (hm : m < ts.length) : Linked ts (chainF ts (m + 1)) ∧ ∀ p ∈ chainF ts (m + 1), p < m + 1 := linked_all m (fun j hj => h.up j (by omega))

theorem endN_in {ts : List Tk} {k e : Nat} (hk : k < ts.length) (he : k < e) (h : e < endN ts k) : (k : Int) ≤ parI ts e := by
  by_cases q : (k : Int) ≤ parI ts e
  · exact q
  · have h2 := endN_le hk
    have := endN_min hk he (fun _ => by omega) (by omega)
    omega

theorem mem_drop {ts : List Tk} : ∀ {c : List Nat}, Linked ts c → ∀ p q, p ∈ c → q ∈ c → q ≤ p → q ∈ c.dropWhile (fun (j : Nat) => !decide ((j : Int) = (p : Int)))
  | [], h, p, q, hp, _, _ => absurd hp (by simp)
  | [x], h, p, q, hp, hq, _ => by
    rw [List.mem_singleton] at hp hq
    subst hp hq
    simp
  | x :: y :: r, h, p, q, hp, hq, hle => by
    by_cases e : x = p
    · subst e
      simpa using hq
    · have hp' : p ∈ y :: r := by
        rcases List.mem_cons.1 hp with h' | h'
        · exact absurd h'.symm e
        · exact h'
      have h1 := Linked.le h.tail p hp'
      have h2 := h.2.1
      have hq' : q ∈ y :: r := by
        rcases List.mem_cons.1 hq with h' | h'
        · omega
        · exact h'
      rw [List.dropWhile_cons, if_pos (by simp; omega)]
      exact mem_drop h.tail p q hp' hq' hle

theorem below_par {ts : List Tk} : ∀ {l : List Nat}, Linked ts l → ∀ c q, c ∈ l → q ∈ l → q < c → (q : Int) ≤ parI ts c
  | [], h, c, q, hc, _, _ => absurd hc (by simp)
  | [x], h, c, q, hc, hq, hlt => by
    rw [List.mem_singleton] at hc hq
    omega
  | x :: y :: r, h, c, q, hc, hq, hlt => by
    by_cases e : c = x
    · subst e
      have hq' : q ∈ y :: r := by
        rcases List.mem_cons.1 hq with h' | h'
        · omega
        · exact h'
      have h1 := Linked.le h.tail q hq'
      rw [h.1]
      omega
    · have hc' : c ∈ y :: r := by
        rcases List.mem_cons.1 hc with h' | h'
        · exact absurd h' e
        · exact h'
      have h1 := Linked.le h.tail c hc'
      have h2 := h.2.1
      have hq' : q ∈ y :: r := by
        rcases List.mem_cons.1 hq with h' | h'
        · omega
        · exact h'
      exact below_par h.tail c q hc' hq' hlt

/-- All that a node has lies in it. -/
theorem in_chain {ts : List Tk} (h : TreeP ts) {c : Nat} (hc : c < ts.length) : ∀ d, c + d < endN ts c → c ∈ chainF ts (c + d + 1)
  | 0, _ => by
    obtain ⟨r, e⟩ := chain_head ts c
    rw [Nat.add_zero, e]
    exact List.mem_cons_self ..
  | d + 1, hd => by
    have hle := endN_le hc
    have ih := in_chain h hc d (by omega)
    have hpar := endN_in hc (show c < c + (d + 1) by omega) hd
    obtain ⟨hL, _⟩ := h.linked (c + d) (by omega)
    rcases h.up (c + (d + 1)) (by omega) with h0 | ⟨p, hp, e, _⟩
    · omega
    · rw [← e] at hpar
      have hm := mem_drop hL p c hp ih (by omega)
      show c ∈ (c + (d + 1)) :: (chainF ts (c + (d + 1))).dropWhile (fun (j : Nat) => !decide ((j : Int) = parI ts (c + (d + 1))))
      rw [← e]
      exact List.mem_cons_of_mem _ hm

/-- Where a kid ends and more is to come, the next one begins. -/
theorem next_kid {ts : List Tk} (h : TreeP ts) {k c : Nat} (hk : k < ts.length) (hc : k < c) (hce : c < endN ts k) (hp : parI ts c = (k : Int)) (hj : endN ts c < endN ts k) : parI ts (endN ts c) = (k : Int) := by
  have hle := endN_le hk
  have hcl := endN_le (ts := ts) (k := c) (by omega)
  have hlow := endN_in hk (show k < endN ts c by omega) hj
  have hup : parI ts (endN ts c) < (c : Int) := by
    rcases endN_stop (ts := ts) (k := c) (by omega) with h' | h'
    · omega
    · exact h'
  have hin := in_chain h (show c < ts.length by omega) (endN ts c - c - 1) (by omega)
  rw [show c + (endN ts c - c - 1) + 1 = endN ts c by omega] at hin
  have hL := (h.linked (endN ts c - 1) (by omega)).1
  rw [show endN ts c - 1 + 1 = endN ts c by omega] at hL
  rcases h.up (endN ts c) (by omega) with h0 | ⟨p, hpm, e, _⟩
  · omega
  · rw [← e] at hlow hup ⊢
    have := below_par hL c p hin hpm (by omega)
    rw [hp] at this
    omega

theorem first_kid {ts : List Tk} (h : TreeP ts) {k : Nat} (hk : k < ts.length) (he : k + 1 < endN ts k) : parI ts (k + 1) = (k : Int) := by
  have hle := endN_le hk
  have hlow := endN_in hk (show k < k + 1 by omega) he
  rcases h.up (k + 1) (by omega) with h0 | ⟨p, hpm, e, _⟩
  · omega
  · have := (h.linked k hk).2 p hpm
    rw [← e] at hlow ⊢
    omega

/-- Behind its end nothing is its kid. -/
theorem out_chain {ts : List Tk} (h : TreeP ts) {k : Nat} (hk : k < ts.length) : ∀ d, endN ts k + d < ts.length → ¬ k ∈ chainF ts (endN ts k + d + 1)
  | 0, hd => by
    have hle := endN_le hk
    intro hm
    have hup : parI ts (endN ts k) < (k : Int) := by
      rcases endN_stop hk with h' | h'
      · omega
      · exact h'
    have hL := h.linked (endN ts k - 1) (by omega)
    rw [show endN ts k - 1 + 1 = endN ts k by omega] at hL
    obtain ⟨hl2, p, r, e, ep, _⟩ := linked_next hL.1 (h.up (endN ts k) (by omega)) (by omega) hL.2
    rw [Nat.add_zero, e] at hm
    rw [e] at hl2
    rcases List.mem_cons.1 hm with h' | h'
    · omega
    · have := Linked.le hl2.tail k h'
      omega
  | d + 1, hd => by
    have hle := endN_le hk
    have ih := out_chain h hk d (by omega)
    intro hm
    have hm : k ∈ (endN ts k + (d + 1)) :: (chainF ts (endN ts k + d + 1)).dropWhile (fun (j : Nat) => !decide ((j : Int) = parI ts (endN ts k + (d + 1)))) := hm
    rcases List.mem_cons.1 hm with h' | h'
    · omega
    · exact ih ((List.dropWhile_sublist _).mem h')

theorem no_kid {ts : List Tk} (h : TreeP ts) {k i : Nat} (hk : k < ts.length) (hi : endN ts k ≤ i) (hn : i < ts.length) : ¬ parI ts i = (k : Int) := by
  have hle := endN_le hk
  intro e
  rcases Nat.lt_or_eq_of_le hi with h' | h'
  · rcases h.up i hn with h0 | ⟨p, hpm, ep, _⟩
    · omega
    · have : p = k := by omega
      subst this
      have := out_chain h hk (i - endN ts p - 1) (by omega)
      rw [show endN ts p + (i - endN ts p - 1) + 1 = i by omega] at this
      exact this hpm
  · subst h'
    rcases endN_stop hk with h' | h'
    · omega
    · omega

/-- Kids from e on. -/
def kidsFrom (ts : List Tk) (k e E : Nat) : List Nat := (List.range' e (E - e)).filter fun i => decide (parI ts i = (k : Int))

theorem kidsFrom_split {ts : List Tk} {k a b c : Nat} (h1 : a ≤ b) (h2 : b ≤ c) : kidsFrom ts k a c = kidsFrom ts k a b ++ kidsFrom ts k b c := by
  unfold kidsFrom
  rw [← List.filter_append]
  congr 1
  have := List.range'_append_1 (s := a) (m := b - a) (n := c - b)
  rw [show a + (b - a) = b by omega, show b - a + (c - b) = c - a by omega] at this
  exact this.symm

theorem kidsFrom_none {ts : List Tk} {k a b : Nat} (h : ∀ i, a ≤ i → i < b → ¬ parI ts i = (k : Int)) : kidsFrom ts k a b = [] := by
  unfold kidsFrom
  rw [List.filter_eq_nil_iff]
  intro i hi
  rw [List.mem_range'_1] at hi
  simpa using h i hi.1 (by omega)

theorem kidsN_from {ts : List Tk} {k : Nat} (hk : k < ts.length) : kidsN ts k = kidsFrom ts k (k + 1) ts.length := by
  unfold kidsN kidsTo kidsFrom
  have e : List.range ts.length = List.range' 0 (k + 1) ++ List.range' (k + 1) (ts.length - (k + 1)) := by
    have := List.range'_append_1 (s := 0) (m := k + 1) (n := ts.length - (k + 1))
    rw [Nat.zero_add, show k + 1 + (ts.length - (k + 1)) = ts.length by omega] at this
    rw [this, List.range_eq_range']
  rw [e, List.filter_append]
  have e1 : (List.range' 0 (k + 1)).filter (fun i => decide (k < i) && decide (parI ts i = (k : Int))) = [] := by
    rw [List.filter_eq_nil_iff]
    intro i hi
    rw [List.mem_range'_1] at hi
    simp
    omega
  rw [e1, List.nil_append]
  refine List.filter_congr fun i hi => ?_
  rw [List.mem_range'_1] at hi
  have : decide (k < i) = true := decide_eq_true (by omega)
  rw [this, Bool.true_and]

/-- Where the i-th kid begins, or all ends. -/
structure FamAt (ts : List Tk) (k i e : Nat) : Prop where
  lo : k < e
  hi : e ≤ endN ts k
  kid : e < endN ts k → parI ts e = (k : Int)
  rest : kidsFrom ts k e (endN ts k) = (kidsN ts k).drop i

theorem fam_start {ts : List Tk} (h : TreeP ts) {k : Nat} (hk : k < ts.length) : FamAt ts k 0 (k + 1) := by
  have hle := endN_le hk
  refine ⟨by omega, by omega, fun he => first_kid h hk he, ?_⟩
  rw [List.drop_zero, kidsN_from hk, kidsFrom_split (show k + 1 ≤ endN ts k by omega) hle.2, kidsFrom_none (a := endN ts k) (fun i h1 h2 => no_kid h hk h1 h2), List.append_nil]

theorem fam_one {ts : List Tk} (h : TreeP ts) {k e : Nat} (hk : k < ts.length) (h1 : k < e) (h2 : e < endN ts k) (h3 : parI ts e = (k : Int)) : kidsFrom ts k e (endN ts k) = e :: kidsFrom ts k (endN ts e) (endN ts k) := by
  have hle := endN_le hk
  have hel := endN_le (ts := ts) (k := e) (by omega)
  have hke := (kid_end hk h1 h2).1
  rw [kidsFrom_split (show e ≤ e + 1 by omega) (show e + 1 ≤ endN ts k by omega), kidsFrom_split (show e + 1 ≤ endN ts e by omega) hke]
  have e1 : kidsFrom ts k e (e + 1) = [e] := by
    unfold kidsFrom
    rw [show e + 1 - e = 1 by omega]
    simp [h3]
  have e2 : kidsFrom ts k (e + 1) (endN ts e) = [] := kidsFrom_none (fun i g1 g2 => by
    have := endN_in (ts := ts) (k := e) (by omega) (show e < i by omega) g2
    omega)
  rw [e1, e2, List.nil_append]
  rfl

theorem FamAt.step {ts : List Tk} (h : TreeP ts) {k i e : Nat} (hk : k < ts.length) (f : FamAt ts k i e) (hi : i < (kidsN ts k).length) :
    (kidsN ts k)[i] = e ∧ e < endN ts k ∧ parI ts e = (k : Int) ∧ FamAt ts k (i + 1) (endN ts e) := by
  have hle := endN_le hk
  have hr := f.rest
  rw [List.drop_eq_getElem_cons hi] at hr
  have hlt : e < endN ts k := by
    rcases Nat.lt_or_eq_of_le f.hi with h' | h'
    · exact h'
    · rw [h', kidsFrom_none (fun i g1 g2 => by omega)] at hr
      cases hr
  have hp := f.kid hlt
  rw [fam_one h hk f.lo hlt hp] at hr
  injection hr with e1 e2
  have hel := endN_le (ts := ts) (k := e) (by omega)
  exact ⟨e1.symm, hlt, hp, ⟨by have := f.lo; omega, (kid_end hk f.lo hlt).1, fun hj => next_kid h hk f.lo hlt hp hj, e2⟩⟩

theorem FamAt.fin {ts : List Tk} (h : TreeP ts) {k i e : Nat} (hk : k < ts.length) (f : FamAt ts k i e) (hi : i = (kidsN ts k).length) : e = endN ts k := by
  rcases Nat.lt_or_eq_of_le f.hi with h' | h'
  · have hr := f.rest
    rw [fam_one h hk f.lo h' (f.kid h'), hi, List.drop_length] at hr
    cases hr
  · exact h'

end Go.Proofs.Ytkcmagfbacmllaa

namespace Go.Proofs.Ytkcmagfbacmllaa
set_option linter.unusedVariables false

theorem ba_empty {s : ByteArray} (h : s.size = 0) : s = ⟨#[]⟩ := by
  apply ByteArray.ext
  exact Array.eq_empty_of_size_eq_zero h

theorem node_el {ts : List Tk} (h : TreeP ts) {k : Nat} (hk : k < ts.length) (he : ¬ ts[k].name.size = 0) : ts[k] = ⟨parI ts k, ts[k].name, ts[k].attrs, ⟨#[]⟩⟩ ∧ tokB (opT ts[k]) = true ∧ tokB (clT ts[k]) = true := by
  obtain ⟨⟨_, hb⟩, _⟩ := h.2.2.2.2 k hk
  rw [nodeB_el he] at hb
  simp only [Bool.and_eq_true, decide_eq_true_eq] at hb
  obtain ⟨h1, h2, h3⟩ := hb
  refine ⟨?_, ?_, ?_⟩
  · rw [parI_at hk]
    have := ba_empty h3
    cases e : ts[k] with
    | mk a b c d =>
      rw [e] at this
      simp only at this
      rw [this]
  · unfold tokB opT
    simp [h1, h2, show (⟨#[]⟩ : ByteArray).size = 0 from rfl]
  · unfold tokB clT
    simp [h1, show (⟨#[]⟩ : ByteArray).size = 0 from rfl]

theorem node_tx {ts : List Tk} (h : TreeP ts) {k : Nat} (hk : k < ts.length) (he : ts[k].name.size = 0) : ts[k] = ⟨parI ts k, ⟨#[]⟩, [], ts[k].text⟩ ∧ tokB (txT ts[k]) = true ∧ endN ts k = k + 1 ∧ ¬ k = 0 := by
  obtain ⟨⟨_, hb⟩, _⟩ := h.2.2.2.2 k hk
  rw [nodeB_tx he] at hb
  simp only [Bool.and_eq_true, decide_eq_true_eq] at hb
  obtain ⟨h1, h2⟩ := hb
  refine ⟨?_, ?_, ?_, fun e => ?_⟩
  · rw [parI_at hk]
    have e1 := ba_empty he
    have e2 : ts[k].attrs = [] := List.eq_nil_of_length_eq_zero h1
    cases e : ts[k] with
    | mk a b c d =>
      rw [e] at e1 e2
      simp only at e1 e2
      rw [e1, e2]
  · unfold tokB txT
    simp [h2, show (⟨#[]⟩ : ByteArray).size = 0 from rfl]
  · have hle := endN_le hk
    rcases Nat.lt_or_eq_of_le (show k + 1 ≤ endN ts k by omega) with h' | h'
    · exfalso
      have hp := first_kid h hk h'
      rcases h.up (k + 1) (by omega) with h0 | ⟨p, _, e, hpn, hne⟩
      · omega
      · have : p = k := by omega
        subst this
        exact hne he
    · exact h'.symm
  · subst e
    obtain ⟨_, hne⟩ := h.2.2.2.1
    exact hne he

theorem kidsTo_from {ts : List Tk} {k e : Nat} (he : k < e) : kidsTo ts k e = kidsFrom ts k (k + 1) e := by
  unfold kidsTo kidsFrom
  have e1 : List.range e = List.range' 0 (k + 1) ++ List.range' (k + 1) (e - (k + 1)) := by
    have := List.range'_append_1 (s := 0) (m := k + 1) (n := e - (k + 1))
    rw [Nat.zero_add, show k + 1 + (e - (k + 1)) = e by omega] at this
    rw [this, List.range_eq_range']
  rw [e1, List.filter_append]
  have e2 : (List.range' 0 (k + 1)).filter (fun i => decide (k < i) && decide (parI ts i = (k : Int))) = [] := by
    rw [List.filter_eq_nil_iff]
    intro i hi
    rw [List.mem_range'_1] at hi
    simp
    omega
  rw [e2, List.nil_append]
  refine List.filter_congr fun i hi => ?_
  rw [List.mem_range'_1] at hi
  have : decide (k < i) = true := decide_eq_true (by omega)
  rw [this, Bool.true_and]

theorem take_node {ts : List Tk} {k : Nat} (hk : k < ts.length) {t : Tk} (h : ts[k] = t) : ts.take k ++ [t] = ts.take (k + 1) := by rw [take_snocN hk, h]

/-- What a node has been told as grows again. -/
theorem grow_sub {ts : List Tk} (h : TreeP ts) : ∀ f k, k < ts.length → ts.length - k ≤ f → ∀ rest, gRun (tokN ts f k ++ rest) ⟨ts.take k, parI ts k, false⟩ = gRun rest ⟨ts.take (endN ts k), parI ts k, decide (k = 0)⟩
  | 0, k, hk, hf, rest => by omega
  | f + 1, k, hk, hf, rest => by
    have hle := endN_le hk
    have hlk : (ts.take k).length = k := by rw [List.length_take]; omega
    unfold tokN
    rw [nodeAt_at hk]
    by_cases he : ts[k].name.size = 0
    · obtain ⟨n1, n2, n3, n4⟩ := node_tx h hk he
      rw [if_pos he, List.singleton_append, gRun_step (gStep_three n2 rfl rfl), n3]
      simp only [txT]
      rw [take_node hk n1, show decide (k = 0) = false from decide_eq_false n4]
    · obtain ⟨n1, n2, n3⟩ := node_el h hk he
      rw [if_neg he, List.cons_append, gRun_step (gStep_one n2 rfl rfl)]
      simp only [opT]
      rw [take_node hk n1, hlk, List.append_assoc]
      have key : ∀ d e i, endN ts k - e ≤ d → FamAt ts k i e → ∀ rest, gRun ((kidsFrom ts k e (endN ts k)).flatMap (tokN ts f) ++ rest) ⟨ts.take e, (k : Int), false⟩ = gRun rest ⟨ts.take (endN ts k), (k : Int), false⟩ := by
        intro d
        induction d with
        | zero =>
          intro e i hd fa rest
          have : e = endN ts k := by have := fa.hi; omega
          rw [this, kidsFrom_none (fun i g1 g2 => by omega)]
          rfl
        | succ d ih =>
          intro e i hd fa rest
          rcases Nat.lt_or_eq_of_le fa.hi with h' | h'
          · have hlo := fa.lo
            have hp := fa.kid h'
            have hel := endN_le (ts := ts) (k := e) (by omega)
            have hi : i < (kidsN ts k).length := by
              rcases Nat.lt_or_ge i (kidsN ts k).length with q | q
              · exact q
              · exfalso
                have hr := fa.rest
                rw [List.drop_of_length_le q, fam_one h hk hlo h' hp] at hr
                cases hr
            have st := (fa.step h hk hi).2.2.2
            rw [fam_one h hk hlo h' hp, List.flatMap_cons, List.append_assoc]
            have := grow_sub h f e (by omega) (by omega) ((kidsFrom ts k (endN ts e) (endN ts k)).flatMap (tokN ts f) ++ rest)
            rw [hp, show decide (e = 0) = false from decide_eq_false (by omega)] at this
            rw [this]
            exact ih (endN ts e) (i + 1) (by omega) st rest
          · rw [h', kidsFrom_none (fun i g1 g2 => by omega)]
            rfl
      rw [kidsTo_from hle.1, key (endN ts k - (k + 1)) (k + 1) 0 (Nat.le_refl _) (fam_start h hk), List.singleton_append]
      have hkt : k < (ts.take (endN ts k)).length := by rw [List.length_take]; omega
      have hna : nodeAt (ts.take (endN ts k)) k = ts[k] := by rw [nodeAt_at hkt, List.getElem_take]
      have hpa : parI (ts.take (endN ts k)) k = parI ts k := by rw [parI_at hkt, parI_at hk, List.getElem_take]
      rw [gRun_step (gStep_two n3 rfl rfl (by show ¬ (k : Int) < 0; omega) (by show (nodeAt (ts.take (endN ts k)) (k : Int).toNat).name = ts[k].name; rw [Int.toNat_natCast, hna]))]
      simp only [Int.toNat_natCast]
      rw [hpa, show decide ((k : Int) = 0) = decide (k = 0) from by rw [decide_eq_decide]; omega]

theorem tree_end {ts : List Tk} (h : TreeP ts) : endN ts 0 = ts.length := by
  have h1 := h.1
  refine endN_is (by omega) (Nat.le_refl _) (fun j g1 g2 => ?_) (.inl rfl)
  rcases h.up j g2 with h0 | ⟨p, _, e, _⟩
  · omega
  · rw [← e]
    omega

/-- Grown of TokensOf is the tree. -/
theorem grown_toks {ts : List Tk} (h : TreeP ts) : grownT (tokN ts ts.length 0) = some ts := by
  have h1 := h.1
  have e := grow_sub h ts.length 0 (by omega) (by omega) []
  rw [List.append_nil, h.2.2.1, tree_end h, List.take_zero, List.take_length] at e
  have e2 : gRun [] ⟨ts, -1, decide (0 = 0)⟩ = some ⟨ts, -1, true⟩ := rfl
  rw [e2] at e
  rw [grownT_end e]
  exact if_pos ⟨rfl, treeB_t h⟩

end Go.Proofs.Ytkcmagfbacmllaa
