/- Contract of TreeOk of the specification. Contracts of EndOf, KidsOf and TextIn of the specification. Contracts of l8Kids, KidsOf, l8Text and TextIn of the specification. -/
import Derived.Test.YtkejmifkjgpdjaaGreatM7
import Derived.Deep.CutRange
import Derived.OwnWalk
namespace Go.Proofs.YtkejmifkjgpdjaaGreat
open Go.RowKit
set_option linter.unusedVariables false
set_option linter.unusedSimpArgs false

theorem nodeB_el {t : Tk} (h : ¬ t.name.size = 0) : nodeB t = (nameL t.name.data.toList && (attrsB t.attrs && decide (t.text.size = 0))) := by unfold nodeB; exact if_neg h

theorem nodeB_tx {t : Tk} (h : t.name.size = 0) : nodeB t = (decide (t.attrs.length = 0) && textB t.text) := by unfold nodeB; exact if_pos h

set_option maxRecDepth 8000 in
set_option maxHeartbeats 8000000 in
theorem cTreeOkS (a : Option Addr) (cap : Nat) (ts : List Tk) (w : World) (hR : TkRow w a ts) (hn : ts.length ≤ 1048576) (hz : TksSz 1048576 ts) :
    Calls Tryz.prog 31 #[.slice a ts.length cap] w fun e w' => e = .returned (.bool (treeB ts)) ∧ Below w.heap.size w w' := by
  obtain ⟨V, hV⟩ : ∃ V, treeB ts = V := ⟨_, rfl⟩
  have HV := hid hV
  rw [hV]
  have HF : Hid (¬ TreeP ts → V = false) := fun h => by rw [← HV.out]; exact treeB_f h
  have HT : Hid (TreeP ts → V = true) := fun h => by rw [← HV.out]; exact treeB_t h
  clear hV HV
  have HR := hid hR
  have HZ := hid hz
  have CI := fun w => c_spec_In7 (ts.length : Int) 1 50 w
  clear hR hz
  obtain ⟨n, hnn⟩ : ∃ n, ts.length = n := ⟨_, rfl⟩
  have HN := hid hnn
  rw [hnn] at hn CI ⊢
  clear hnn
  by_cases h50 : 1 ≤ n ∧ n ≤ 50
  case neg =>
    have hd : decide ((1 : Int) ≤ (n : Int) ∧ (n : Int) ≤ 50) = false := decide_eq_false (by omega)
    rw [hd] at CI
    have HW := hid (HF.out (fun h => h50 (by have h1 := h.1; have h2 := h.2.1; rw [HN.out] at h1 h2; exact ⟨h1, h2⟩)))
    go_enter Tryz.func31, Tryz.ntmps31
    go_wp2_with fail
    refine (CI _).mono ?_
    rintro e w1 ⟨rfl, rfl⟩
    go_wp2_with fail
    go_ret
    exact ⟨by rw [HW.out]; rfl, Below.refl _ _⟩
  have hd : decide ((1 : Int) ≤ (n : Int) ∧ (n : Int) ≤ 50) = true := decide_eq_true (by omega)
  rw [hd] at CI
  have h0s : 0 < ts.length := by rw [HN.out]; omega
  have hin0 : (0 : Int) < (n : Int) := by omega
  obtain ⟨b, o, rfl, c0, c1⟩ := HR.out.kindAt 0 h0s
  simp only [Nat.zero_mul, Nat.add_zero] at c0 c1
  have E := empty_is ts[0].name
  have z0 := (HZ.out _ (List.getElem_mem h0s)).1
  by_cases hp : parI ts 0 = -1
  case neg =>
    have HW := hid (HF.out (fun h => hp h.2.2.1))
    have hd2 : (parI ts 0 == -1) = false := by simpa using hp
    generalize parI ts 0 = P at *
    generalize ts[0].name = N at *
    go_enter Tryz.func31, Tryz.ntmps31
    go_wp2_with fail
    refine (CI _).mono ?_
    rintro e w1 ⟨rfl, rfl⟩
    go_wp2_with fail
    go_ret
    exact ⟨by rw [HW.out]; rfl, Below.refl _ _⟩
  have HP := hid hp
  rw [hp] at c0
  by_cases hel : ts[0].name.size = 0
  case pos =>
    have HW := hid (HF.out (fun h => by obtain ⟨_, h'⟩ := h.2.2.2.1; exact h' hel))
    rw [decide_eq_true hel] at E
    generalize ts[0].name = N at *
    clear hp
    go_enter Tryz.func31, Tryz.ntmps31
    go_wp2_with fail
    refine (CI _).mono ?_
    rintro e w1 ⟨rfl, rfl⟩
    go_wp2_with fail
    go_ret
    exact ⟨by rw [HW.out]; rfl, Below.refl _ _⟩
  have HEL := hid (show elN ts 0 from ⟨h0s, hel⟩)
  rw [decide_eq_false hel] at E
  generalize ts[0].name = N at *
  clear hp hel
  go_enter Tryz.func31, Tryz.ntmps31
  go_wp2_with fail
  refine (CI _).mono ?_
  rintro e w1 ⟨rfl, rfl⟩
  go_wp2_with fail
  clear c0 c1 E z0 CI
  go_loopw [3] (fun k wr => ∃ i : Nat, k = .int .i64 (i : Int) ∧ i ≤ n ∧ Hid (∀ j, j < i → NodeOk ts j) ∧ Hid (Below w1.heap.size w1 wr)) (fun k _ => n - (intOf k).toNat)
  case atStart => exact ⟨0, rfl, Nat.zero_le _, fun j h => by omega, Below.refl _ _⟩
  case round =>
    obtain ⟨i, rfl, hi, HA, HB⟩ := hrel
    by_cases hlt : i < n
    case neg =>
      have hie : i = n := by omega
      subst hie
      have HW := hid (HT.out ⟨by rw [HN.out]; exact h50.1, by rw [HN.out]; exact h50.2, HP.out, HEL.out, fun j hj => HA.out j (by rw [← HN.out]; exact hj)⟩)
      go_wp2_with fail
      go_ret
      exact ⟨by rw [HW.out]; rfl, HB.out⟩
    have his : i < ts.length := by rw [HN.out]; exact hlt
    have hin : (i : Int) < (n : Int) := by omega
    obtain ⟨b', o', aa, ca, e', hb, c0, c1, c2, c3, cr⟩ := HR.out.below HB.out i his
    obtain ⟨rfl, rfl⟩ : b = b' ∧ o = o' := by cases e'; exact ⟨rfl, rfl⟩
    clear e'
    obtain ⟨t, ht⟩ : ∃ t, ts[i] = t := ⟨_, rfl⟩
    have HTT := hid ht
    have HZt := HZ.out _ (List.getElem_mem his)
    rw [ht] at c0 c1 c2 c3 cr HZt
    obtain ⟨tk, tn, tl, tx⟩ := t
    obtain ⟨z1, z2, z3, z4⟩ := HZt
    simp only at c0 c1 c2 c3 cr z1 z2 z3 z4
    have HFN : Hid (nodeB ⟨tk, tn, tl, tx⟩ = false → V = false) := fun h => HF.out (fun hh => by
      obtain ⟨⟨_, h1⟩, _⟩ := hh.2.2.2.2 i his
      rw [HTT.out, h] at h1
      cases h1)
    have M0 := hid (heap_alloc_new wr (.cells #[.int .i64 tk, .string tn, .slice aa tl.length ca, .string tx] 44))
    have HB0 := hid (HB.out.alloc HB.out.size (.cells #[.int .i64 tk, .string tn, .slice aa tl.length ca, .string tx] 44))
    have CR := hid (cr.below ((Below.refl wr.heap.size wr).alloc (Nat.le_refl _) (.cells #[.int .i64 tk, .string tn, .slice aa tl.length ca, .string tx] 44)))
    have CN := hid (fun w => c_spec_NameOk tn w z1)
    have CA := hid (fun w (h : AtRow w aa tl) => cL7Attrs aa ca tl w h z3 z2)
    have CX := hid (fun w => cL7Text tx w z4)
    have HE1 := hid (@nodeB_el ⟨tk, tn, tl, tx⟩)
    have HE2 := hid (@nodeB_tx ⟨tk, tn, tl, tx⟩)
    simp only at HE1 HE2
    have E1 := empty_is tn
    have E2 := empty_is tx
    obtain ⟨B, hB⟩ : ∃ B, nodeB ⟨tk, tn, tl, tx⟩ = B := ⟨_, rfl⟩
    rw [hB] at HE1 HE2 HFN
    have HBB := hid hB
    obtain ⟨m, hm⟩ : ∃ m, tl.length = m := ⟨_, rfl⟩
    rw [hm] at c2 M0 HB0 CR CA z2 HE2
    clear ht hB cr z3 hm
    go_upto_region 7 with fail
    go_cut [70] from 24 to 106 (fun v wv => v = .bool (!B) ∧ Hid (wv.heap[wr.heap.size]? = some (.cells #[.int .i64 tk, .string tn, .slice aa m ca, .string tx] 44 (0, 0)) ∧ Below w1.heap.size w1 wv))
    case first =>
      by_cases e1 : tn.size = 0
      · rw [decide_eq_true e1] at E1
        have hB := HE2.out e1
        by_cases hm0 : m = 0
        · rw [decide_eq_true hm0, Bool.true_and] at hB
          subst hm0
          rw [← hB] at CX
          clear hB
          go_wp2_with fail
          refine (CX.out _).mono ?_
          rintro e w2 ⟨rfl, rfl⟩
          cases B
          · go_wp2_with fail
            go_meet
            exact ⟨rfl, M0.out, HB0.out⟩
          · go_wp2_with fail
            go_meet
            exact ⟨rfl, M0.out, HB0.out⟩
        · rw [decide_eq_false hm0, Bool.false_and] at hB
          have hd1 : decide ((0 : Int) < (m : Int)) = true := by simp; omega
          subst hB
          go_wp2_with fail
          go_meet
          exact ⟨rfl, M0.out, HB0.out⟩
      · rw [decide_eq_false e1] at E1
        have hB := HE1.out e1
        cases q1 : nameL tn.data.toList
        · rw [q1, Bool.false_and] at hB
          rw [q1] at CN
          subst hB
          go_wp2_with fail
          refine (CN.out _).mono ?_
          rintro e w2 ⟨rfl, hb2⟩
          have M2 := hid (blk_below M0.out hb2)
          have HB2 := hid (bb HB0.out hb2)
          obtain ⟨⟨x0, x1, x2, x3⟩, _⟩ := box4 M2.out
          go_wp2_with fail
          go_meet
          exact ⟨rfl, M2.out, HB2.out⟩
        · rw [q1, Bool.true_and] at hB
          rw [q1] at CN
          cases q2 : attrsB tl
          · rw [q2, Bool.false_and] at hB
            rw [q2] at CA
            subst hB
            go_wp2_with fail
            refine (CN.out _).mono ?_
            rintro e w2 ⟨rfl, hb2⟩
            have M2 := hid (blk_below M0.out hb2)
            have HB2 := hid (bb HB0.out hb2)
            have CR2 := hid (CR.out.below hb2)
            obtain ⟨⟨x0, x1, x2, x3⟩, _⟩ := box4 M2.out
            clear hb2
            go_wp2_with fail
            refine (CA.out _ CR2.out).mono ?_
            rintro e w3 ⟨rfl, hb3⟩
            have M3 := hid (blk_below M2.out hb3)
            have HB3 := hid (bb HB2.out hb3)
            clear x0 x1 x2 x3 hb3
            obtain ⟨⟨x0, x1, x2, x3⟩, _⟩ := box4 M3.out
            go_wp2_with fail
            go_meet
            exact ⟨rfl, M3.out, HB3.out⟩
          · rw [q2, Bool.true_and] at hB
            rw [q2] at CA
            rw [← hB] at E2
            clear hB
            go_wp2_with fail
            refine (CN.out _).mono ?_
            rintro e w2 ⟨rfl, hb2⟩
            have M2 := hid (blk_below M0.out hb2)
            have HB2 := hid (bb HB0.out hb2)
            have CR2 := hid (CR.out.below hb2)
            obtain ⟨⟨x0, x1, x2, x3⟩, _⟩ := box4 M2.out
            clear hb2
            go_wp2_with fail
            refine (CA.out _ CR2.out).mono ?_
            rintro e w3 ⟨rfl, hb3⟩
            have M3 := hid (blk_below M2.out hb3)
            have HB3 := hid (bb HB2.out hb3)
            clear x0 x1 x2 x3 hb3
            obtain ⟨⟨x0, x1, x2, x3⟩, _⟩ := box4 M3.out
            cases B
            · go_wp2_with fail
              go_meet
              exact ⟨rfl, M3.out, HB3.out⟩
            · go_wp2_with fail
              go_meet
              exact ⟨rfl, M3.out, HB3.out⟩
    case rest =>
      obtain ⟨rfl, HC⟩ := hcut
      obtain ⟨hM, hBw⟩ := HC.out
      have MW := hid hM
      have BWC := hid hBw
      clear hM hBw HC CX CA CN HE1 HE2 CR M0 HB0 c0 c1 c2 c3
      cases B
      · have HW := hid (HFN.out rfl)
        go_wp2_with fail
        go_ret
        exact ⟨by rw [HW.out]; rfl, BWC.out⟩
      · clear HFN
        have CD := hid (fun (wx : World) (hx : TkRow wx (some ⟨b, o, none⟩) ts) => cDepthS (some ⟨b, o, none⟩) cap ts i wx hx his (by rw [HN.out]; exact hn) HZ.out HP.out (fun j hj => (HA.out j hj).2.1))
        rw [HN.out] at CD
        have HRW := hid (HR.out.below BWC.out)
        by_cases hu : UpOk ts i
        case neg =>
          have HW := hid (HF.out (fun h => hu (h.2.2.2.2 i his).2.1))
          rw [depI_f hu] at CD
          go_wp2_with fail
          refine (CD.out _ HRW.out).mono ?_
          rintro e w2 ⟨rfl, rfl⟩
          go_wp2_with fail
          go_ret
          exact ⟨by rw [HW.out]; rfl, BWC.out⟩
        rw [depI_t hu] at CD
        obtain ⟨D, hD⟩ : ∃ D, (chainF ts (i + 1)).length = D := ⟨_, rfl⟩
        have HD := hid hD
        have hD1 : 1 ≤ D := by rw [← hD]; exact Nat.succ_pos _
        rw [hD] at CD
        clear hD
        have hd1 : decide ((D : Int) < 1) = false := by simp; omega
        by_cases h9 : D ≤ 9
        case neg =>
          have HW := hid (HF.out (fun h => h9 (by rw [← HD.out]; exact (h.2.2.2.2 i his).2.2.1)))
          have hd2 : decide ((9 : Int) < (D : Int)) = true := by simp; omega
          go_wp2_with fail
          refine (CD.out _ HRW.out).mono ?_
          rintro e w2 ⟨rfl, rfl⟩
          go_wp2_with fail
          go_ret
          exact ⟨by rw [HW.out]; rfl, BWC.out⟩
        have hd2 : decide ((9 : Int) < (D : Int)) = false := by simp; omega
        have HK : Hid (¬ TwinAt ts i → ∀ j, j < i + 1 → NodeOk ts j) := fun h j hj => by
          rcases Nat.lt_or_eq_of_le (Nat.le_of_lt_succ hj) with h' | rfl
          · exact HA.out j h'
          · exact ⟨⟨his, by rw [HTT.out]; exact HBB.out⟩, hu, by rw [HD.out]; exact h9, h⟩
        obtain ⟨⟨x0, x1, x2, x3⟩, _⟩ := box4 MW.out
        by_cases hi0 : i = 0
        · have HK2 := hid (HK.out (fun h => by obtain ⟨_, h0, _⟩ := h; omega))
          have HI0 := hid hi0
          clear hi0
          go_wp2_with fail
          refine (CD.out _ HRW.out).mono ?_
          rintro e w2 ⟨rfl, rfl⟩
          clear CD hin HRW
          obtain ⟨z, hz⟩ : ∃ z : Int, (i : Int) = z := ⟨_, rfl⟩
          have hd3 : decide ((0 : Int) < z) = false := decide_eq_false (by have := HI0.out; omega)
          have HZZ := hid hz
          have hzn : z < 100 := by omega
          have hzp : -1 < z := by omega
          simp only [hz]
          clear hz
          go_wp2_with fail
          go_quiet (fail)
          go_wp2_with fail
          go_roundw
          case rel => exact ⟨i + 1, by have := HZZ.out; congr 1; omega, by omega, HK2.out, below_drewN BWC.out _⟩
          case measure => have := HZZ.out; simp [intOf]; omega
        have hip : 0 < i := by omega
        by_cases e1 : tn.size = 0
        case neg =>
          rw [decide_eq_false e1] at E1
          have HK2 := hid (HK.out (fun h => by obtain ⟨h1, _, h2, _⟩ := h; rw [HTT.out] at h2; exact e1 h2))
          go_wp2_with fail
          refine (CD.out _ HRW.out).mono ?_
          rintro e w2 ⟨rfl, rfl⟩
          go_wp2_with fail
          go_quiet (fail)
          go_wp2_with fail
          go_roundw
          case rel => exact ⟨i + 1, by go_num, by omega, HK2.out, below_drewN BWC.out _⟩
          case measure => simp [intOf]; omega
        rw [decide_eq_true e1] at E1
        obtain ⟨i', rfl⟩ : ∃ i', i = i' + 1 := ⟨i - 1, by omega⟩
        have hs' : i' < ts.length := by omega
        have hin' : (i' : Int) < (n : Int) := by omega
        obtain ⟨b', o', e', y0, y1⟩ := HRW.out.kindAt i' hs'
        obtain ⟨rfl, rfl⟩ : b = b' ∧ o = o' := by cases e'; exact ⟨rfl, rfl⟩
        have E3 := empty_is ts[i'].name
        have z5 := (HZ.out _ (List.getElem_mem hs')).1
        by_cases e2 : ts[i'].name.size = 0
        case neg =>
          rw [decide_eq_false e2] at E3
          have HK2 := hid (HK.out (fun h => by obtain ⟨h1, _, _, h2, _⟩ := h; exact e2 h2))
          generalize ts[i'].name = nm at *
          generalize parI ts i' = PI at *
          go_wp2_with fail
          refine (CD.out _ HRW.out).mono ?_
          rintro e w2 ⟨rfl, rfl⟩
          go_wp2_with fail
          go_quiet (fail)
          go_wp2_with fail
          go_roundw
          case rel => exact ⟨i' + 1 + 1, by go_num, by omega, HK2.out, below_drewN BWC.out _⟩
          case measure => simp [intOf]; omega
        rw [decide_eq_true e2] at E3
        by_cases e3 : parI ts i' = tk
        · have HW := hid (HF.out (fun h => (h.2.2.2.2 (i' + 1) his).2.2.2 ⟨his, by omega, by rw [HTT.out]; exact e1, e2, by
            rw [HTT.out]
            rw [parI_at hs'] at e3
            exact e3⟩))
          have hd4 : (parI ts i' == tk) = true := by simpa using e3
          clear e3
          generalize ts[i'].name = nm at *
          generalize parI ts i' = PI at *
          go_wp2_with fail
          refine (CD.out _ HRW.out).mono ?_
          rintro e w2 ⟨rfl, rfl⟩
          go_wp2_with fail
          go_quiet (fail)
          go_wp2_with fail
          go_ret
          exact ⟨by rw [HW.out]; rfl, below_drewN BWC.out _⟩
        · have HK2 := hid (HK.out (fun h => by
            obtain ⟨h1, _, _, _, h2⟩ := h
            rw [HTT.out] at h2
            rw [parI_at hs'] at e3
            exact e3 h2))
          have hd4 : (parI ts i' == tk) = false := by simpa using e3
          generalize ts[i'].name = nm at *
          generalize parI ts i' = PI at *
          clear e3
          go_wp2_with fail
          refine (CD.out _ HRW.out).mono ?_
          rintro e w2 ⟨rfl, rfl⟩
          go_wp2_with fail
          go_quiet (fail)
          go_wp2_with fail
          go_roundw
          case rel => exact ⟨i' + 1 + 1, by go_num, by omega, HK2.out, below_drewN BWC.out _⟩
          case measure => simp [intOf]; omega

end Go.Proofs.YtkejmifkjgpdjaaGreat

namespace Go.Proofs.YtkejmifkjgpdjaaGreat
open Go.RowKit
set_option linter.unusedVariables false
set_option linter.unusedSimpArgs false

theorem takeWhile_len {α : Type} (p : α → Bool) : ∀ (l : List α) (m : Nat), m ≤ l.length → (∀ k (h : k < l.length), k < m → p l[k] = true) → (∀ h : m < l.length, p l[m] = false) → (l.takeWhile p).length = m
  | [], m, hm, _, _ => by simp at hm; subst hm; rfl
  | x :: l, 0, _, _, h => by
    have := h (by simp)
    simp only [List.getElem_cons_zero] at this
    rw [List.takeWhile_cons, this]
    rfl
  | x :: l, m + 1, hm, h1, h2 => by
    have h0 := h1 0 (by simp) (by omega)
    simp only [List.getElem_cons_zero] at h0
    rw [List.takeWhile_cons, h0]
    simp only [if_true, List.length_cons]
    rw [takeWhile_len p l m (by simpa using hm) (fun k h hk => by have := h1 (k + 1) (by simpa using h) (by omega); simpa using this) (fun h => by have := h2 (by simpa using h); simpa using this)]

/-- Behind all that the node there has. -/
def endN (ts : List Tk) (k : Nat) : Nat := k + 1 + ((ts.drop (k + 1)).takeWhile fun t => decide ((k : Int) ≤ t.kind)).length

theorem endN_is {ts : List Tk} {k e : Nat} (hk : k < e) (he : e ≤ ts.length) (h : ∀ j, k < j → j < e → (k : Int) ≤ parI ts j) (hx : e = ts.length ∨ parI ts e < (k : Int)) : endN ts k = e := by
  unfold endN
  rw [takeWhile_len _ _ (e - (k + 1)) (by rw [List.length_drop]; omega) (fun j hj hlt => ?_) (fun hj => ?_)]
  · omega
  · rw [List.length_drop] at hj
    rw [List.getElem_drop]
    have := h (k + 1 + j) (by omega) (by omega)
    rw [parI_at (by omega)] at this
    exact decide_eq_true this
  · rw [List.length_drop] at hj
    rw [List.getElem_drop]
    have e2 : k + 1 + (e - (k + 1)) = e := by omega
    simp only [e2]
    rcases hx with hx | hx
    · omega
    · rw [parI_at (by omega)] at hx
      exact decide_eq_false (by omega)

theorem endN_le {ts : List Tk} {k : Nat} (h : k < ts.length) : k < endN ts k ∧ endN ts k ≤ ts.length := by
  unfold endN
  have := (List.takeWhile_sublist (fun t : Tk => decide ((k : Int) ≤ t.kind)) (l := ts.drop (k + 1))).length_le
  rw [List.length_drop] at this
  omega

set_option maxHeartbeats 2000000 in
theorem cEndS (a : Option Addr) (cap : Nat) (ts : List Tk) (k : Nat) (w : World) (hR : TkRow w a ts) (hk : k < ts.length) (hn : ts.length ≤ 1048576) :
    Calls Tryz.prog 38 #[.slice a ts.length cap, .int .i64 (k : Int)] w fun e w' => e = .returned (.int .i64 (endN ts k : Nat)) ∧ w' = w := by
  have HR := hid hR
  obtain ⟨V, hV⟩ : ∃ V, endN ts k = V := ⟨_, rfl⟩
  have HV := hid hV
  rw [hV]
  clear hR hV
  obtain ⟨n, hnn⟩ : ∃ n, ts.length = n := ⟨_, rfl⟩
  have HN := hid hnn
  rw [hnn] at hn hk ⊢
  clear hnn
  go_enter Tryz.func38, Tryz.ntmps38
  go_wp2
  go_loop [5] (fun v => ∃ e : Nat, v = .int .i64 (e : Int) ∧ k < e ∧ e ≤ n ∧ Hid (∀ j, k < j → j < e → (k : Int) ≤ parI ts j)) (fun v => n - (intOf v).toNat)
  case atStart => exact ⟨k + 1, by go_num, by omega, by omega, fun j h1 h2 => by omega⟩
  case round =>
    obtain ⟨e, rfl, h1, h2, HA⟩ := hrel
    by_cases hlt : e < n
    · have hes : e < ts.length := by rw [HN.out]; exact hlt
      have hin : (e : Int) < (n : Int) := by omega
      obtain ⟨b, o, rfl, c0, _⟩ := HR.out.kindAt e hes
      by_cases hp : (k : Int) ≤ parI ts e
      · have HA2 := hid (show ∀ j, k < j → j < e + 1 → (k : Int) ≤ parI ts j from fun j g1 g2 => by
          rcases Nat.lt_or_eq_of_le (Nat.le_of_lt_succ g2) with h' | rfl
          · exact HA.out j g1 h'
          · exact hp)
        generalize parI ts e = P at *
        go_wp2
        go_round
        case rel => exact ⟨e + 1, by go_num, by omega, by omega, HA2.out⟩
        case measure => simp [intOf]; omega
      · have HW := hid (show V = e by rw [← HV.out]; exact endN_is h1 (by rw [HN.out]; exact h2) HA.out (.inr (by omega)))
        have hp' : parI ts e < (k : Int) := by omega
        generalize parI ts e = P at *
        go_wp2
        go_ret
        exact ⟨by rw [HW.out]; rfl, rfl⟩
    · have hee : e = n := by omega
      have HW := hid (show V = e by rw [← HV.out]; exact endN_is h1 (by rw [HN.out]; exact h2) HA.out (.inl (by rw [HN.out]; exact hee)))
      subst hee
      go_wp2
      go_ret
      exact ⟨by rw [HW.out]; rfl, rfl⟩

/-- There is such a node, and it is a tree. -/
noncomputable def hasB (ts : List Tk) (x : Int) : Bool := treeB ts && decide (0 ≤ x ∧ x < ts.length)

theorem hasB_t {ts : List Tk} {x : Int} (h : hasB ts x = true) : TreeP ts ∧ ∃ k : Nat, x = k ∧ k < ts.length := by
  unfold hasB at h
  simp only [Bool.and_eq_true, decide_eq_true_eq] at h
  refine ⟨?_, x.toNat, by omega, by omega⟩
  by_cases q : TreeP ts
  · exact q
  · rw [treeB_f q] at h
    cases h.1

theorem hasB_eq {ts : List Tk} {x : Int} {n : Nat} (h : ts.length = n) : hasB ts x = (treeB ts && (decide (0 ≤ x) && decide (x < n))) := by
  unfold hasB
  rw [h, Bool.decide_and]

noncomputable def endI (ts : List Tk) (x : Int) : Int := if hasB ts x = true then (endN ts x.toNat : Int) else -1

end Go.Proofs.YtkejmifkjgpdjaaGreat

namespace Go.Proofs.YtkejmifkjgpdjaaGreat
open Go.RowKit
set_option linter.unusedVariables false
set_option linter.unusedSimpArgs false

/-- Nodes up to e whose parent it is. -/
def kidsTo (ts : List Tk) (k e : Nat) : List Nat := (List.range e).filter fun i => decide (k < i) && decide (parI ts i = (k : Int))

/-- Nodes whose parent it is. -/
def kidsN (ts : List Tk) (k : Nat) : List Nat := kidsTo ts k ts.length

theorem kidsTo_first (ts : List Tk) (k : Nat) : kidsTo ts k (k + 1) = [] := by
  unfold kidsTo
  rw [List.filter_eq_nil_iff]
  intro i hi
  have := List.mem_range.1 hi
  simp
  omega

theorem kidsTo_next {ts : List Tk} {k e : Nat} (h : k < e) : kidsTo ts k (e + 1) = kidsTo ts k e ++ (if parI ts e = (k : Int) then [e] else []) := by
  unfold kidsTo
  rw [List.range_succ, List.filter_append]
  congr 1
  by_cases q : parI ts e = (k : Int)
  · simp [h, q]
  · simp [q]

theorem kidsTo_len (ts : List Tk) (k e : Nat) : (kidsTo ts k e).length ≤ e := by
  have := List.length_filter_le (fun i => decide (k < i) && decide (parI ts i = (k : Int))) (List.range e)
  rw [List.length_range] at this
  exact this

theorem kidsN_lt {ts : List Tk} {k i : Nat} (h : i ∈ kidsN ts k) : i < ts.length := List.mem_range.1 (List.mem_filter.1 h).1

/-- Numbers as cells. -/
def intC (l : List Nat) : List Value := l.map fun (i : Nat) => .int .i64 (i : Int)

theorem intC_len (l : List Nat) : (intC l).length = l.length := by simp [intC]

theorem intC_app (l m : List Nat) : intC (l ++ m) = intC l ++ intC m := by simp [intC]

theorem info64 : (Tryz.prog.info? 2).map (fun i => (i.zero, i.size, i.bytes)) = some (some (.int .i64 0), 1, 8) := by kernel_rfl

theorem one_cell64 (w : World) (v : Value) : ∀ j u, [v][j]? = some u → (w.alloc (.cells #[v] 2)).cell? ((⟨w.heap.size, 0, none⟩ : Addr).add j) = some u := by
  intro j u hj
  match j, hj with
  | 0, hj => simp at hj; subst hj; simp [Addr.add]

theorem one_one64 (n : Int) : ∀ u ∈ [Value.int .i64 n], u.oneCell' = true := by
  intro u hu; simp at hu; subst hu; rfl

set_option maxRecDepth 8000 in
set_option maxHeartbeats 4000000 in
theorem cKidsS (a : Option Addr) (cap : Nat) (ts : List Tk) (k : Nat) (w : World) (hR : TkRow w a ts) (hk : k < ts.length) (hn : ts.length ≤ 1048576) :
    Calls Tryz.prog 45 #[.slice a ts.length cap, .int .i64 (k : Int)] w fun e w' => ∃ v, e = .returned v ∧ w'.ownsRow w.heap.size 2 1 v (kidsN ts k).length (intC (kidsN ts k)) ∧ Below w.heap.size w w' := by
  have HR := hid hR
  obtain ⟨i0, hi, hz0, hz1, hz2⟩ := info_parts info64
  have HI := hid (And.intro hi (And.intro hz0 (And.intro hz1 hz2)))
  clear hi hz0 hz1 hz2 hR
  obtain ⟨V, hV⟩ : ∃ V, kidsN ts k = V := ⟨_, rfl⟩
  have HV := hid hV
  rw [hV]
  clear hV
  obtain ⟨n, hnn⟩ : ∃ n, ts.length = n := ⟨_, rfl⟩
  have HN := hid hnn
  rw [hnn] at hn hk ⊢
  clear hnn
  go_enter Tryz.func45, Tryz.ntmps45
  go_wp2
  go_loopw [5, 6] (fun v x wr => ∃ e : Nat, x = .int .i64 (e : Int) ∧ k < e ∧ e ≤ n ∧ Hid (wr.ownsRow w.heap.size 2 1 v (kidsTo ts k e).length (intC (kidsTo ts k e))) ∧ Hid (Below w.heap.size w wr)) (fun _ x _ => n - (intOf x).toNat)
  case atStart => exact ⟨k + 1, by go_num, by omega, by omega, by rw [kidsTo_first]; exact World.ownsRow_made _ _ _ (Nat.le_refl _) (by decide) rfl, (Below.refl _ _).alloc (Nat.le_refl _) _⟩
  case round =>
    obtain ⟨e, rfl, h1, h2, HO, HB⟩ := hrel
    by_cases hlt : e < n
    · have hes : e < ts.length := by rw [HN.out]; exact hlt
      have hin : (e : Int) < (n : Int) := by omega
      obtain ⟨b, o, rfl, c0, _⟩ := (HR.out.below HB.out).kindAt e hes
      have HX := hid (kidsTo_next (ts := ts) h1)
      by_cases hp : parI ts e = (k : Int)
      · rw [if_pos hp] at HX
        have hlen := kidsTo_len ts k e
        have hd : (parI ts e == (k : Int)) = true := by simpa using hp
        generalize parI ts e = P at *
        clear hp
        obtain ⟨hi, hz0, hz1, hz2⟩ := HI.out
        have hsz := HB.out.size
        have HOA := hid (HO.out.alloc (.cells #[.int .i64 (e : Int)] 2))
        have hlen2 : (intC (kidsTo ts k e)).length ≤ e := by rw [intC_len]; exact hlen
        go_wp2_with (at_builtin; refine wpList_append_own _ rfl _ _ 78 rfl w.heap.size 2 i0 (.int .i64 0) 1 8 Tryz.underlying78 hi hz0 hz1 hz2 rfl (by decide) _ _ _ rfl HOA.out ⟨wr.heap.size, 0, none⟩ 1 1 [.int .i64 (e : Int)] rfl rfl ?c1 ?c2 ?c3 ?c4 ?c5 ?_)
        case c1 => exact one_cell64 _ _
        case c2 => exact one_one64 _
        case c3 => unfold maxLen; omega
        case c4 => omega
        case c5 => simp; omega
        intro v' w2 hown' hgrow _
        have HO2 := hid (show w2.ownsRow w.heap.size 2 1 v' (kidsTo ts k (e + 1)).length (intC (kidsTo ts k (e + 1))) by rw [HX.out, intC_app, List.length_append]; exact hown')
        have HB2 := hid ((HB.out.alloc hsz (.cells #[.int .i64 (e : Int)] 2)).grown hgrow (by simp; omega) (fun g hg => (HOA.out.lt g hg).1))
        clear hown' hgrow
        go_wp2
        go_roundw
        case rel => exact ⟨e + 1, by go_num, by omega, by omega, HO2.out, HB2.out⟩
        case measure => simp [intOf]; omega
      · rw [if_neg hp, List.append_nil] at HX
        have hd : (parI ts e == (k : Int)) = false := by simpa using hp
        generalize parI ts e = P at *
        clear hp
        go_wp2
        go_roundw
        case rel => exact ⟨e + 1, by go_num, by omega, by omega, by rw [HX.out]; exact HO.out, HB.out⟩
        case measure => simp [intOf]; omega
    · have hee : e = n := by omega
      subst hee
      have HW := hid (show kidsTo ts k e = V by rw [← HV.out]; unfold kidsN; rw [HN.out])
      have HO2 := HO.out
      rw [HW.out] at HO2
      have HO3 := hid HO2
      clear HO2 HO
      go_wp2
      go_ret
      exact ⟨_, rfl, HO3.out, HB.out⟩

/-- A cell of a row of numbers of our own. -/
theorem row64 {w : World} {B : Nat} {v : Value} {l : List Nat} (h : w.ownsRow B 2 1 v l.length (intC l)) : (∃ a cap, v = .slice a l.length cap) ∧ ∀ i (hi : i < l.length), ∃ g cap, v = .slice (some ⟨g, 0, none⟩) l.length cap ∧ g < w.heap.size ∧ w.cell? ⟨g, i, none⟩ = some (.int .i64 (l[i] : Int)) := by
  rcases h.2 with ⟨rfl, h0⟩ | ⟨g, cap, cur, rfl, hg, hh, hn, hc, hs, ht⟩
  · have : l = [] := List.eq_nil_of_length_eq_zero h0
    subst this
    exact ⟨⟨none, 0, rfl⟩, fun i hi => absurd hi (Nat.not_lt_zero _)⟩
  · refine ⟨⟨_, _, rfl⟩, fun i hi => ⟨g, cap, rfl, lt_of_heap hh, ?_⟩⟩
    rw [Lib.cell_of_heap hh, ← Array.getElem?_toList]
    have hk : (intC l)[i]? = some (.int .i64 (l[i] : Int)) := by
      unfold intC
      rw [List.getElem?_map, List.getElem?_eq_getElem hi]
      rfl
    rw [← ht, List.getElem?_take] at hk
    split at hk
    · exact hk
    · cases hk

theorem row64_mono {w : World} {B B' n : Nat} {v : Value} {xs : List Value} {e : TypeId} (h : w.ownsRow B' e 1 v n xs) (hB : B ≤ B') : w.ownsRow B e 1 v n xs := by
  refine ⟨h.1, ?_⟩
  rcases h.2 with h' | ⟨g, cap, cur, h1, h2, h3⟩
  · exact .inl h'
  · exact .inr ⟨g, cap, cur, h1, Nat.le_trans hB h2, h3⟩

noncomputable def kidsI (ts : List Tk) (x : Int) : List Nat := if hasB ts x = true then kidsN ts x.toNat else []

def textAt (ts : List Tk) (k : Nat) : ByteArray := match ts[k]? with | some t => t.text | none => ⟨#[]⟩

theorem textAt_at {ts : List Tk} {k : Nat} (h : k < ts.length) : textAt ts k = ts[k].text := by unfold textAt; rw [List.getElem?_eq_getElem h]

/-- The texts of these, one behind the other. -/
def joinT (ts : List Tk) (ks : List Nat) : ByteArray := ks.foldl (fun s k => s ++ textAt ts k) ⟨#[]⟩

theorem joinT_snoc (ts : List Tk) (ks : List Nat) (k : Nat) : joinT ts (ks ++ [k]) = joinT ts ks ++ textAt ts k := by simp [joinT]

theorem tree_text {ts : List Tk} (h : TreeP ts) (k : Nat) : (textAt ts k).size ≤ 60 := by
  by_cases hk : k < ts.length
  · rw [textAt_at hk]
    obtain ⟨⟨_, hb⟩, _⟩ := h.2.2.2.2 k hk
    by_cases e : ts[k].name.size = 0
    · rw [nodeB_tx e] at hb
      simp only [Bool.and_eq_true, textB, decide_eq_true_eq] at hb
      exact hb.2.2.2
    · rw [nodeB_el e] at hb
      simp only [Bool.and_eq_true, decide_eq_true_eq] at hb
      omega
  · unfold textAt
    rw [List.getElem?_eq_none (by omega)]
    exact Nat.zero_le _

theorem joinT_size {ts : List Tk} (h : ∀ k, (textAt ts k).size ≤ 60) (ks : List Nat) : (joinT ts ks).size ≤ 60 * ks.length := by
  have H : ∀ (ks : List Nat) (s : ByteArray), (ks.foldl (fun s k => s ++ textAt ts k) s).size ≤ s.size + 60 * ks.length := by
    intro ks
    induction ks with
    | nil => intro s; simp
    | cons k ks ih =>
      intro s
      have := ih (s ++ textAt ts k)
      have h2 := h k
      rw [ByteArray.size_append] at this
      simp only [List.foldl_cons, List.length_cons]
      omega
  have := H ks ⟨#[]⟩
  rw [show (⟨#[]⟩ : ByteArray).size = 0 from rfl] at this
  unfold joinT
  omega

noncomputable def textI (ts : List Tk) (x : Int) : ByteArray := if hasB ts x = true then joinT ts (kidsN ts x.toNat) else ⟨#[]⟩

end Go.Proofs.YtkejmifkjgpdjaaGreat
