/- Contracts of attrsOk and TokenOk of the program. Contracts of isText, tokenOf and besideText of the program. Contract of TreeOk of the program. -/
import Derived.Test.YtkejmifkjgpdjaaGreatM7
import Derived.Test.YtkejmifkjgpdjaaGreatM24
import Derived.Test.YtkejmifkjgpdjaaGreatM1
import Derived.Deep.CutRange
namespace Go.Proofs.YtkejmifkjgpdjaaGreat
open Go.RowKit
set_option linter.unusedVariables false
set_option linter.unusedSimpArgs false

theorem cValueOkI (s : ByteArray) (w : World) (hs : s.size ≤ 1048576) :
    Calls Tryz.prog 109 #[.string s] w fun e w' => e = .returned (.bool (decide (s.size ≤ 60) && plainL s.data.toList)) ∧ w' = w := by
  have CP := fun w => c_impl_PlainOk s w (by unfold maxLen; omega)
  by_cases q : s.size ≤ 60
  · rw [decide_eq_true q, Bool.true_and]
    have hd : decide ((s.size : Int) ≤ 60) = true := by simp; omega
    go_enter Tryz.func109, Tryz.ntmps109
    go_wp2_with fail
    refine (CP _).mono ?_
    rintro e w1 ⟨rfl, rfl⟩
    go_wp2_with fail
    go_ret
    exact ⟨rfl, rfl⟩
  · rw [decide_eq_false q, Bool.false_and]
    have hd : decide ((s.size : Int) ≤ 60) = false := by simp; omega
    clear CP
    go_enter Tryz.func109, Tryz.ntmps109
    go_wp2_with fail
    go_ret
    exact ⟨rfl, rfl⟩

theorem box2c {w : World} {g : Nat} {x y : Value} {T : TypeId} (h : w.heap[g]? = some (.cells #[x, y] T (0, 0))) : w.cell? ⟨g, 0, none⟩ = some x ∧ w.cell? ⟨g, 1, none⟩ = some y :=
  ⟨by rw [Lib.cell_of_heap h]; rfl, by rw [Lib.cell_of_heap h]; rfl⟩

set_option maxRecDepth 8000 in
set_option maxHeartbeats 4000000 in
theorem cAttrsOkI (a : Option Addr) (cap : Nat) (l : List At) (w : World) (hR : AtRow w a l) (hz : AtSz 1048576 l) (hn : l.length ≤ 1048576) :
    Calls Tryz.prog 108 #[.slice a l.length cap] w fun e w' => e = .returned (.bool (attrsB l)) ∧ Below w.heap.size w w' := by
  obtain ⟨V, hV⟩ : ∃ V, attrsB l = V := ⟨_, rfl⟩
  have HV := hid hV
  rw [hV]
  have HF : Hid (¬ AttrsOk l → V = false) := fun h => by rw [← HV.out]; exact attrsB_f h
  have HT : Hid (AttrsOk l → V = true) := fun h => by rw [← HV.out]; exact attrsB_t h
  clear hV HV
  have HR := hid hR
  have HZ := hid hz
  have HC := hid (fun (w : World) (hR : AtRow w a l) name (hm : name.size ≤ 1048576) => cAttrAt a cap l name w hR hz hn hm)
  clear hR hz
  obtain ⟨n, hnn⟩ : ∃ n, l.length = n := ⟨_, rfl⟩
  have HN := hid hnn
  rw [hnn] at hn HC ⊢
  clear hnn
  by_cases h6 : n ≤ 6
  · have d6 : decide ((6 : Int) < (n : Int)) = false := by simp; omega
    go_enter Tryz.func108, Tryz.ntmps108
    go_wp2
    go_loopw [10] (fun k wr => ∃ i : Nat, k = .int .i64 (i : Int) ∧ i ≤ n ∧ Hid (AtsOk i l) ∧ Hid (Below w.heap.size w wr)) (fun k _ => n - (intOf k).toNat)
    case atStart => exact ⟨0, rfl, Nat.zero_le _, ⟨fun j _ h => by omega, fun i j _ _ h => by omega⟩, Below.refl _ _⟩
    case round =>
      obtain ⟨i, rfl, hi, HA, HB⟩ := hrel
      by_cases hlt : i < n
      · have his : i < l.length := by rw [HN.out]; exact hlt
        have hin : (i : Int) < (n : Int) := by omega
        obtain ⟨b, o, rfl, hb, c1, c2⟩ := HR.out.below HB.out i his
        obtain ⟨z1, z2⟩ := HZ.out _ (List.getElem_mem his)
        have CN := hid (fun w => c_impl_NameOk l[i].name w z1)
        have CV := hid (fun w => cValueOkI l[i].value w z2)
        have M := hid (heap_alloc_new wr (.cells #[.string l[i].name, .string l[i].value] 62))
        have HB0 := hid (HB.out.alloc HB.out.size (.cells #[.string l[i].name, .string l[i].value] 62))
        cases q1 : nameL l[i].name.data.toList
        · have HW := hid (HF.out (fun h => by have := (h.2.1 i his (by rw [HN.out]; exact hlt)).1; rw [q1] at this; cases this))
          rw [q1] at CN
          generalize l[i].name = x at *
          generalize l[i].value = y at *
          clear CV HC
          go_wp2_with fail
          refine (CN.out _).mono ?_
          rintro e w1 ⟨rfl, hb1⟩
          have HB1 := hid (bb HB0.out hb1)
          clear hb1 c1 c2 CN
          go_wp2_with fail
          go_ret
          exact ⟨by rw [HW.out]; rfl, HB1.out⟩
        · cases q2 : (decide (l[i].value.size ≤ 60) && plainL l[i].value.data.toList)
          · have HW := hid (HF.out (fun h => by
              obtain ⟨_, k1, k2⟩ := h.2.1 i his (by rw [HN.out]; exact hlt)
              rw [k1, decide_eq_true k2] at q2
              cases q2))
            rw [q1] at CN
            rw [q2] at CV
            generalize l[i].name = x at *
            generalize l[i].value = y at *
            clear HC
            go_wp2_with fail
            refine (CN.out _).mono ?_
            rintro e w1 ⟨rfl, hb1⟩
            have HB1 := hid (bb HB0.out hb1)
            obtain ⟨x0, x1⟩ := box2c (blk_below M.out hb1)
            clear hb1 c1 c2 CN
            go_wp2_with fail
            refine (CV.out _).mono ?_
            rintro e w2 ⟨rfl, rfl⟩
            go_wp2_with fail
            go_ret
            exact ⟨by rw [HW.out]; rfl, HB1.out⟩
          · have HOK := hid (show atOk l[i] from ⟨q1, by
              simp only [Bool.and_eq_true, decide_eq_true_eq] at q2
              exact ⟨q2.2, q2.1⟩⟩)
            rw [q1] at CN
            rw [q2] at CV
            obtain ⟨x, hx⟩ : ∃ x, l[i].name = x := ⟨_, rfl⟩
            obtain ⟨y, hy⟩ : ∃ y, l[i].value = y := ⟨_, rfl⟩
            have HX := hid hx
            rw [hx] at c1 CN z1 M HB0
            rw [hy] at c2 CV z2 M HB0
            have HCx := hid (fun w1 (h : Below w.heap.size w w1) => HC.out w1 (HR.out.below h) x z1)
            clear hx hy q1 q2 HC
            go_wp2_with fail
            refine (CN.out _).mono ?_
            rintro e w1 ⟨rfl, hb1⟩
            have HB1 := hid (bb HB0.out hb1)
            obtain ⟨x0, x1⟩ := box2c (blk_below M.out hb1)
            clear hb1 c1 c2 CN
            go_wp2_with fail
            refine (CV.out _).mono ?_
            rintro e w2 ⟨rfl, rfl⟩
            go_wp2_with fail
            refine (HCx.out _ HB1.out).mono ?_
            rintro e w3 ⟨r, rfl, hr, hb3⟩
            have HB3 := hid (bb HB1.out hb3)
            clear hb3 x0 x1
            rcases hr with ⟨_, h1⟩ | ⟨j, hj, rfl, hq, h1⟩
            · exact absurd HX.out (h1 _ (List.getElem_mem his))
            · have hji : j ≤ i := by
                rcases Nat.lt_or_ge i j with h' | h'
                · exact absurd HX.out (h1 l[i] (List.mem_take_iff_getElem.2 ⟨i, by omega, rfl⟩))
                · exact h'
              rcases Nat.lt_or_eq_of_le hji with h' | rfl
              · have HW := hid (HF.out (fun h => h.2.2 i j his h' (by rw [HN.out]; exact hlt) (by rw [hq, HX.out])))
                have hd : ((j : Int) == (i : Int)) = false := by simp; omega
                clear hq h1 hj hji h'
                go_wp2_with fail
                go_ret
                exact ⟨by rw [HW.out]; rfl, HB3.out⟩
              · have HA2 := hid (HA.out.next his HOK.out (fun m hm => by
                  intro e
                  exact h1 l[m] (List.mem_take_iff_getElem.2 ⟨m, by omega, rfl⟩) (e.trans HX.out)))
                clear hq h1 hj hji
                go_wp2_with fail
                go_roundw
                case rel => exact ⟨j + 1, by go_num, by omega, HA2.out, HB3.out⟩
                case measure => simp [intOf]; omega
      · have hie : i = n := by omega
        subst hie
        have HW := hid (HT.out ⟨by rw [HN.out]; exact h6, by rw [HN.out]; exact HA.out⟩)
        go_wp2_with fail
        go_ret
        exact ⟨by rw [HW.out]; rfl, HB.out⟩
  · have d6 : decide ((6 : Int) < (n : Int)) = true := by simp; omega
    have HW := hid (HF.out (fun h => h6 (by have := h.1; rw [HN.out] at this; exact this)))
    go_enter Tryz.func108, Tryz.ntmps108
    go_wp2
    go_ret
    exact ⟨by rw [HW.out]; rfl, Below.refl _ _⟩

set_option maxRecDepth 8000 in
set_option maxHeartbeats 2000000 in
theorem cTokenOkI (t : Tk) (a : Option Addr) (cap : Nat) (w : World) (hR : AtRow w a t.attrs) (hz : TkSz 1048576 t) :
    Calls Tryz.prog 78 #[tkV t a cap] w fun e w' => e = .returned (.bool (tokB t)) ∧ Below w.heap.size w w' := by
  obtain ⟨k, name, l, text⟩ := t
  obtain ⟨h1, h2, h3, h4⟩ := hz
  simp only at hR h1 h2 h3 h4
  have HB0 := hid ((Below.refl w.heap.size w).alloc (Nat.le_refl _) (.cells #[.int .i64 k, .string name, .slice a l.length cap, .string text] 113))
  have HR := hid (hR.below HB0.out)
  have CN := fun w => c_impl_NameOk name w h1
  have CA := fun (w : World) (hR : AtRow w a l) => cAttrsOkI a cap l w hR h3 h2
  have CX := fun w => cValueOkI text w h4
  have E1 := empty_is name
  have E2 := empty_is text
  obtain ⟨V, hV⟩ : ∃ V, tokB ⟨k, name, l, text⟩ = V := ⟨_, rfl⟩
  have HV := hid hV
  rw [hV]
  clear hV hR h3
  simp only [tkV]
  obtain ⟨n, hn⟩ : ∃ n, l.length = n := ⟨_, rfl⟩
  have HN := hid hn
  rw [hn] at CA HB0 HR h2 ⊢
  clear hn
  have E3 : ((n : Int) == 0) = decide (n = 0) := by
    by_cases h : n = 0
    · subst h; rfl
    · rw [decide_eq_false h]; simp; omega
  by_cases k1 : k = 1
  · subst k1
    have hv := HV.out
    unfold tokB at hv
    simp only [if_true] at hv
    cases q1 : nameL name.data.toList
    · rw [q1] at hv CN
      have HW := hid (show V = false from hv.symm)
      clear hv CA CX
      go_enter Tryz.func78, Tryz.ntmps78
      go_wp2_with fail
      refine (CN _).mono ?_
      rintro e w1 ⟨rfl, hb1⟩
      have HB1 := hid (bb HB0.out hb1)
      go_wp2_with fail
      go_ret
      exact ⟨by rw [HW.out]; rfl, HB1.out⟩
    · rw [q1, Bool.true_and] at hv
      rw [q1] at CN
      cases q2 : attrsB l
      · rw [q2] at hv CA
        have HW := hid (show V = false from hv.symm)
        clear hv CX
        go_enter Tryz.func78, Tryz.ntmps78
        go_wp2_with fail
        refine (CN _).mono ?_
        rintro e w1 ⟨rfl, hb1⟩
        obtain ⟨hc, hf⟩ := bcell hb1
        have HB1 := hid (bb HB0.out hb1)
        have HR1 := hid (HR.out.below hb1)
        go_wp2_with fail
        refine (CA _ HR1.out).mono ?_
        rintro e w2 ⟨rfl, hb2⟩
        have HB2 := hid (bb HB1.out hb2)
        go_wp2_with fail
        go_ret
        exact ⟨by rw [HW.out]; rfl, HB2.out⟩
      · rw [q2, Bool.true_and] at hv
        rw [q2] at CA
        have HW := hid hv
        rw [hv] at E2
        clear hv CX
        go_enter Tryz.func78, Tryz.ntmps78
        go_wp2_with fail
        refine (CN _).mono ?_
        rintro e w1 ⟨rfl, hb1⟩
        obtain ⟨hc, hf⟩ := bcell hb1
        have HB1 := hid (bb HB0.out hb1)
        have HR1 := hid (HR.out.below hb1)
        have hz1 : w.heap.size < w1.heap.size := by have := hb1.size; simp at this; omega
        go_wp2_with fail
        refine (CA _ HR1.out).mono ?_
        rintro e w2 ⟨rfl, hb2⟩
        obtain ⟨hc2, hf2⟩ := bcell hb2
        have HB2 := hid (bb HB1.out hb2)
        go_wp2_with fail
        go_ret
        exact ⟨rfl, HB2.out⟩
  · by_cases k2 : k = 2
    · subst k2
      have hv := HV.out
      unfold tokB at hv
      simp only [show ¬ ((2 : Int) = 1) by decide, if_false, if_true] at hv
      rw [HN.out] at hv
      cases q1 : nameL name.data.toList
      · rw [q1] at hv CN
        have HW := hid (show V = false from hv.symm)
        clear hv CA CX
        go_enter Tryz.func78, Tryz.ntmps78
        go_wp2_with fail
        refine (CN _).mono ?_
        rintro e w1 ⟨rfl, hb1⟩
        have HB1 := hid (bb HB0.out hb1)
        go_wp2_with fail
        go_ret
        exact ⟨by rw [HW.out]; rfl, HB1.out⟩
      · rw [q1, Bool.true_and] at hv
        rw [q1] at CN
        cases q2 : decide (n = 0)
        · rw [q2] at hv E3
          have HW := hid (show V = false from hv.symm)
          clear hv CX CA
          go_enter Tryz.func78, Tryz.ntmps78
          go_wp2_with fail
          refine (CN _).mono ?_
          rintro e w1 ⟨rfl, hb1⟩
          obtain ⟨hc, hf⟩ := bcell hb1
          have HB1 := hid (bb HB0.out hb1)
          go_wp2_with fail
          go_ret
          exact ⟨by rw [HW.out]; rfl, HB1.out⟩
        · rw [q2, Bool.true_and] at hv
          rw [q2] at E3
          rw [hv] at E2
          clear hv CX CA
          go_enter Tryz.func78, Tryz.ntmps78
          go_wp2_with fail
          refine (CN _).mono ?_
          rintro e w1 ⟨rfl, hb1⟩
          obtain ⟨hc, hf⟩ := bcell hb1
          have HB1 := hid (bb HB0.out hb1)
          go_wp2_with fail
          go_ret
          exact ⟨rfl, HB1.out⟩
    · by_cases k3 : k = 3
      · subst k3
        have hv := HV.out
        unfold tokB at hv
        simp only [show ¬ ((3 : Int) = 1) by decide, show ¬ ((3 : Int) = 2) by decide, if_false, if_true] at hv
        rw [HN.out] at hv
        cases q1 : decide (name.size = 0)
        · rw [q1] at hv E1
          have HW := hid (show V = false from hv.symm)
          clear hv CA CX CN
          go_enter Tryz.func78, Tryz.ntmps78
          go_wp2_with fail
          go_ret
          exact ⟨by rw [HW.out]; rfl, HB0.out⟩
        · rw [q1, Bool.true_and] at hv
          rw [q1] at E1
          cases q2 : decide (n = 0)
          · rw [q2] at hv E3
            have HW := hid (show V = false from hv.symm)
            clear hv CX CA CN
            go_enter Tryz.func78, Tryz.ntmps78
            go_wp2_with fail
            go_ret
            exact ⟨by rw [HW.out]; rfl, HB0.out⟩
          · rw [q2, Bool.true_and] at hv
            rw [q2] at E3
            cases q3 : decide (text.size = 0)
            · rw [q3] at E2
              have q3' : ¬ text.size = 0 := of_decide_eq_false q3
              have e1 : textB text = (decide (text.size ≤ 60) && plainL text.data.toList) := by
                unfold textB
                rw [Bool.and_comm]
                congr 1
                rw [decide_eq_decide]
                omega
              rw [e1] at hv
              rw [hv] at CX
              clear hv CA CN e1
              go_enter Tryz.func78, Tryz.ntmps78
              go_wp2_with fail
              refine (CX _).mono ?_
              rintro e w1 ⟨rfl, rfl⟩
              go_wp2_with fail
              go_ret
              exact ⟨rfl, HB0.out⟩
            · rw [q3] at E2
              have q3' : text.size = 0 := of_decide_eq_true q3
              have e1 : textB text = false := by
                unfold textB
                rw [decide_eq_false (by omega), Bool.and_false]
              rw [e1] at hv
              have HW := hid hv
              clear hv CA CN CX e1
              go_enter Tryz.func78, Tryz.ntmps78
              go_wp2_with fail
              go_ret
              exact ⟨by rw [← HW.out]; rfl, HB0.out⟩
      · have hv := HV.out
        unfold tokB at hv
        simp only [k1, k2, k3, if_false] at hv
        have HW := hid (show V = false from hv.symm)
        have d1 : (k == 1) = false := by simpa using k1
        have d2 : (k == 2) = false := by simpa using k2
        have d3 : (k == 3) = false := by simpa using k3
        clear hv CA CX CN
        go_enter Tryz.func78, Tryz.ntmps78
        go_wp2_with fail
        go_ret
        exact ⟨by rw [HW.out]; rfl, HB0.out⟩

end Go.Proofs.YtkejmifkjgpdjaaGreat

namespace Go.Proofs.YtkejmifkjgpdjaaGreat
open Go.RowKit
set_option linter.unusedVariables false
set_option linter.unusedSimpArgs false

set_option maxHeartbeats 1000000 in
theorem cIsText (k : Int) (nm : ByteArray) (a : Option Addr) (n cap : Nat) (tx : ByteArray) (w : World) (hz : nm.size ≤ 1048576) :
    Calls Tryz.prog 48 #[.agg #[.int .i64 k, .string nm, .slice a n cap, .string tx]] w fun e w' => e = .returned (.bool (decide (nm.size = 0))) ∧ Below w.heap.size w w' := by
  have HB0 := hid ((Below.refl w.heap.size w).alloc (Nat.le_refl _) (.cells #[.int .i64 k, .string nm, .slice a n cap, .string tx] 44))
  have E := empty_is nm
  generalize decide (nm.size = 0) = D at *
  go_enter Tryz.func48, Tryz.ntmps48
  go_wp2
  go_ret
  exact ⟨rfl, HB0.out⟩

theorem heap_two (w : World) (o1 o2 : Obj) : ((w.alloc o1).alloc o2).heap[w.heap.size + 1]? = some o2 := by
  have h := heap_alloc_new (w.alloc o1) o2
  rw [show (w.alloc o1).heap.size = w.heap.size + 1 by simp] at h
  exact h

set_option maxHeartbeats 2000000 in
theorem cTokenOf (t : Tk) (a : Option Addr) (cap : Nat) (w : World) (hz : TkSz 1048576 t) :
    Calls Tryz.prog 79 #[tkV t a cap] w fun e w' => e = .returned (tkV (tokOfN t) a cap) ∧ Below w.heap.size w w' := by
  obtain ⟨k, nm, l, tx⟩ := t
  have C := hid (fun wx => cIsText k nm a l.length cap tx wx hz.1)
  have HB0 := hid (((Below.refl w.heap.size w).alloc (Nat.le_refl _) (.cells #[.int .i64 k, .string nm, .slice a l.length cap, .string tx] 44)).alloc (by simp) (.cells #[.int .i64 0, .string ⟨#[]⟩, .slice none 0 0, .string ⟨#[]⟩] 113))
  have M0 := hid (blk_alloc (heap_alloc_new w (.cells #[.int .i64 k, .string nm, .slice a l.length cap, .string tx] 44)) (.cells #[.int .i64 0, .string ⟨#[]⟩, .slice none 0 0, .string ⟨#[]⟩] 113))
  have M1 := hid (heap_two w (.cells #[.int .i64 k, .string nm, .slice a l.length cap, .string tx] 44) (.cells #[.int .i64 0, .string ⟨#[]⟩, .slice none 0 0, .string ⟨#[]⟩] 113))
  simp only [tkV]
  by_cases q : nm.size = 0
  · have e1 : tokOfN ⟨k, nm, l, tx⟩ = ⟨3, ⟨#[]⟩, l, tx⟩ := by unfold tokOfN; exact if_pos q
    rw [e1]
    rw [decide_eq_true q] at C
    generalize l.length = n at *
    clear e1 hz
    go_enter Tryz.func79, Tryz.ntmps79
    go_wp2_with fail
    refine (C.out _).mono ?_
    rintro e w1 ⟨rfl, hb1⟩
    have HB1 := hid (bb HB0.out hb1)
    obtain ⟨⟨x0, x1, x2, x3⟩, _⟩ := box4 (blk_below M0.out hb1)
    obtain ⟨⟨y0, y1, y2, y3⟩, f0, f1, f2, f3⟩ := box4 (blk_below M1.out hb1)
    clear hb1
    go_wp2_with fail
    refine bodyPost_ret (v := .agg #[.int .i64 3, .string ⟨#[]⟩, .slice a n cap, .string tx]) (by simp [results, Tryz.results79, go_sem, y0, y1, y2, y3]) rfl ⟨rfl, ?_⟩
    iterate 4 refine Below.setCell ?_ (Nat.le_succ _) _
    exact HB1.out
  · have e1 : tokOfN ⟨k, nm, l, tx⟩ = ⟨1, nm, l, tx⟩ := by unfold tokOfN; exact if_neg q
    rw [e1]
    rw [decide_eq_false q] at C
    generalize l.length = n at *
    clear e1 hz
    go_enter Tryz.func79, Tryz.ntmps79
    go_wp2_with fail
    refine (C.out _).mono ?_
    rintro e w1 ⟨rfl, hb1⟩
    have HB1 := hid (bb HB0.out hb1)
    obtain ⟨⟨x0, x1, x2, x3⟩, _⟩ := box4 (blk_below M0.out hb1)
    obtain ⟨⟨y0, y1, y2, y3⟩, f0, f1, f2, f3⟩ := box4 (blk_below M1.out hb1)
    clear hb1
    go_wp2_with fail
    refine bodyPost_ret (v := .agg #[.int .i64 1, .string nm, .slice a n cap, .string tx]) (by simp [results, Tryz.results79, go_sem, y0, y1, y2, y3]) rfl ⟨rfl, ?_⟩
    iterate 4 refine Below.setCell ?_ (Nat.le_succ _) _
    exact HB1.out

set_option maxRecDepth 8000 in
set_option maxHeartbeats 4000000 in
theorem cBeside (a : Option Addr) (cap : Nat) (ts : List Tk) (i : Nat) (w : World) (hR : TkRow w a ts) (hi : i < ts.length) (hn : ts.length ≤ 1048576) (hz : TksSz 1048576 ts) :
    Calls Tryz.prog 80 #[.slice a ts.length cap, .int .i64 (i : Int)] w fun e w' => e = .returned (.bool (twinB ts i)) ∧ Below w.heap.size w w' := by
  obtain ⟨V, hV⟩ : ∃ V, twinB ts i = V := ⟨_, rfl⟩
  have HV := hid hV
  rw [hV]
  have HF : Hid (¬ TwinAt ts i → V = false) := fun h => by rw [← HV.out]; exact twinB_f h
  have HT : Hid (TwinAt ts i → V = true) := fun h => by rw [← HV.out]; exact twinB_t h
  clear hV HV
  by_cases h0 : i = 0
  case pos =>
    have HW := hid (HF.out (fun h => by obtain ⟨_, h', _⟩ := h; omega))
    subst h0
    have HNB := hid (bw_any w)
    clear hR hz
    generalize ts.length = n at *
    go_enter Tryz.func80, Tryz.ntmps80
    go_wp2_with fail
    haveI := HNB.out
    refine wp_region_below (by kernel_rfl) (by kernel_rfl) (Below.refl w.heap.size w) ?_
    repeat (go_big_quiet_step (fail))
    refine wpQuiet_nil ?_
    intro w2 hw'
    obtain ⟨⟨wx, hb2⟩, hw''⟩ := hw'
    subst hw''
    have HB2 := hid hb2
    clear hb2 this HNB
    go_wp2_with fail
    go_ret
    exact ⟨by rw [HW.out]; rfl, HB2.out⟩
  obtain ⟨j, hij⟩ : ∃ j, i = j + 1 := ⟨i - 1, by omega⟩
  have hjl : j < ts.length := by omega
  have hd : decide (0 < i) = true := decide_eq_true (by omega)
  have hj : (i : Int) - 1 = (j : Int) := by omega
  have hji : ¬ (i : Int) < 1 := by omega
  obtain ⟨b, o, aa, ca, rfl, hb, c0, c1, c2, c3, cr⟩ := hR i hi
  obtain ⟨b', o', aj, cj, e', _, k0, k1, k2, k3, kr⟩ := hR j hjl
  obtain ⟨rfl, rfl⟩ : b = b' ∧ o = o' := by cases e'; exact ⟨rfl, rfl⟩
  have HTI := hid (show TwinAt ts i ↔ ts[i].name.size = 0 ∧ ts[j].name.size = 0 ∧ ts[j].kind = ts[i].kind by
    subst hij
    constructor
    · rintro ⟨h1, h2, h3, h4, h5⟩
      exact ⟨h3, h4, h5⟩
    · rintro ⟨h3, h4, h5⟩
      exact ⟨hi, by omega, h3, h4, h5⟩)
  obtain ⟨d0, d1, d2, d3⟩ := quad_bw hb c0 c1 c2 c3
  obtain ⟨j0, j1, j2, j3⟩ := quad_bw hb k0 k1 k2 k3
  have CI := hid (fun p : BW w => cIsText ts[i].kind ts[i].name aa ts[i].attrs.length ca ts[i].text p.w (hz _ (List.getElem_mem hi)).1)
  have CJ := hid (fun p : BW w => cIsText ts[j].kind ts[j].name aj ts[j].attrs.length cj ts[j].text p.w (hz _ (List.getElem_mem hjl)).1)
  have z1 := (hz _ (List.getElem_mem hi)).1
  have z2 := (hz _ (List.getElem_mem hjl)).1
  have hin : (i : Int) < (ts.length : Int) := by omega
  have hjn : (j : Int) < (ts.length : Int) := by omega
  have HIJ := hid hij
  have HNB := hid (bw_any w)
  clear e' c0 c1 c2 c3 k0 k1 k2 k3 hR hz hij h0 cr kr
  generalize ts[i].kind = ki at *
  generalize ts[i].name = ni at *
  generalize ts[i].attrs.length = li at *
  generalize ts[i].text = xi at *
  generalize ts[j].kind = kj at *
  generalize ts[j].name = nj at *
  generalize ts[j].attrs.length = lj at *
  generalize ts[j].text = xj at *
  generalize ts.length = n at *
  by_cases q1 : ni.size = 0
  case neg =>
    have HW := hid (HF.out (fun h => q1 (HTI.out.1 h).1))
    rw [decide_eq_false q1] at CI
    clear q1 HTI
    go_enter Tryz.func80, Tryz.ntmps80
    go_wp2_with fail
    haveI := HNB.out
    refine wp_region_below (by kernel_rfl) (by kernel_rfl) (Below.refl w.heap.size w) ?_
    repeat (go_big_quiet_step ((go_at_call 48; first | exact calls_bw _ (CI.out _) | exact calls_bw _ (CJ.out _))))
    refine wpQuiet_nil ?_
    intro w2 hw'
    obtain ⟨⟨wx, hb2⟩, hw''⟩ := hw'
    subst hw''
    have HB2 := hid hb2
    clear hb2 this HNB
    go_wp2_with fail
    go_ret
    exact ⟨by rw [HW.out]; rfl, HB2.out⟩
  by_cases q2 : nj.size = 0
  case neg =>
    have HW := hid (HF.out (fun h => q2 (HTI.out.1 h).2.1))
    rw [decide_eq_true q1] at CI
    rw [decide_eq_false q2] at CJ
    clear q1 q2 HTI
    go_enter Tryz.func80, Tryz.ntmps80
    go_wp2_with fail
    haveI := HNB.out
    refine wp_region_below (by kernel_rfl) (by kernel_rfl) (Below.refl w.heap.size w) ?_
    repeat (go_big_quiet_step ((go_at_call 48; first | exact calls_bw _ (CI.out _) | exact calls_bw _ (CJ.out _))))
    refine wpQuiet_nil ?_
    intro w2 hw'
    obtain ⟨⟨wx, hb2⟩, hw''⟩ := hw'
    subst hw''
    have HB2 := hid hb2
    clear hb2 this HNB
    go_wp2_with fail
    go_ret
    exact ⟨by rw [HW.out]; rfl, HB2.out⟩
  by_cases q3 : kj = ki
  case neg =>
    have HW := hid (HF.out (fun h => q3 (HTI.out.1 h).2.2))
    have hq3 : (ki == kj) = false := by simp; omega
    rw [decide_eq_true q1] at CI
    rw [decide_eq_true q2] at CJ
    clear q1 q2 q3 HTI
    go_enter Tryz.func80, Tryz.ntmps80
    go_wp2_with fail
    haveI := HNB.out
    refine wp_region_below (by kernel_rfl) (by kernel_rfl) (Below.refl w.heap.size w) ?_
    repeat (go_big_quiet_step ((go_at_call 48; first | exact calls_bw _ (CI.out _) | exact calls_bw _ (CJ.out _))))
    refine wpQuiet_nil ?_
    intro w2 hw'
    obtain ⟨⟨wx, hb2⟩, hw''⟩ := hw'
    subst hw''
    have HB2 := hid hb2
    clear hb2 this HNB
    go_wp2_with fail
    go_ret
    exact ⟨by rw [HW.out]; rfl, HB2.out⟩
  case pos =>
    have HW := hid (HT.out (HTI.out.2 ⟨q1, q2, q3⟩))
    have hq3 : (ki == kj) = true := by simp; omega
    rw [decide_eq_true q1] at CI
    rw [decide_eq_true q2] at CJ
    clear q1 q2 q3 HTI
    go_enter Tryz.func80, Tryz.ntmps80
    go_wp2_with fail
    haveI := HNB.out
    refine wp_region_below (by kernel_rfl) (by kernel_rfl) (Below.refl w.heap.size w) ?_
    repeat (go_big_quiet_step ((go_at_call 48; first | exact calls_bw _ (CI.out _) | exact calls_bw _ (CJ.out _))))
    refine wpQuiet_nil ?_
    intro w2 hw'
    obtain ⟨⟨wx, hb2⟩, hw''⟩ := hw'
    subst hw''
    have HB2 := hid hb2
    clear hb2 this HNB
    go_wp2_with fail
    go_ret
    exact ⟨by rw [HW.out]; rfl, HB2.out⟩

end Go.Proofs.YtkejmifkjgpdjaaGreat

namespace Go.Proofs.YtkejmifkjgpdjaaGreat
open Go.RowKit
set_option linter.unusedVariables false
set_option linter.unusedSimpArgs false

/-- What TreeOk's loop knows. -/
structure OkSt (ts : List Tk) (w : World) (g i : Nat) (wr : World) : Prop where
  ok : ∀ j, j < i → NodeOk ts j
  pile : ∃ cur v, PileI wr w.heap.size g 0 cur 107 v (pileF ts i)
  bel : Below w.heap.size w wr

set_option maxRecDepth 8000 in
set_option maxHeartbeats 8000000 in
theorem cTreeOkI (a : Option Addr) (cap : Nat) (ts : List Tk) (w : World) (hR : TkRow w a ts) (hn : ts.length ≤ 1048576) (hz : TksSz 1048576 ts) :
    Calls Tryz.prog 47 #[.slice a ts.length cap] w fun e w' => e = .returned (.bool (treeB ts)) ∧ Below w.heap.size w w' := by
  obtain ⟨V, hV⟩ : ∃ V, treeB ts = V := ⟨_, rfl⟩
  have HV := hid hV
  rw [hV]
  have HF : Hid (¬ TreeP ts → V = false) := fun h => by rw [← HV.out]; exact treeB_f h
  have HT : Hid (TreeP ts → V = true) := fun h => by rw [← HV.out]; exact treeB_t h
  clear hV HV
  have HR := hid hR
  have HZ := hid hz
  have hmf : ∀ (fn : Fn) (first cap : Array Value) (w : World), (Instr.makeFunc fn first cap).run Tryz.prog w = .ok (.func fn first cap) w := fun _ _ _ _ => rfl
  clear hR hz
  obtain ⟨n, hnn⟩ : ∃ n, ts.length = n := ⟨_, rfl⟩
  have HN := hid hnn
  rw [hnn] at hn ⊢
  clear hnn
  by_cases h0 : n = 0
  case pos =>
    have HW := hid (HF.out (fun h => by have h1 := h.1; rw [HN.out] at h1; omega))
    subst h0
    go_enter Tryz.func47, Tryz.ntmps47
    go_wp2_with fail
    go_ret
    exact ⟨by rw [HW.out]; rfl, Below.refl _ _⟩
  have hd0 : ((n : Int) == 0) = false := by simp; omega
  by_cases h50 : n ≤ 50
  case neg =>
    have HW := hid (HF.out (fun h => h50 (by have h2 := h.2.1; rw [HN.out] at h2; exact h2)))
    have hd1 : decide ((50 : Int) < (n : Int)) = true := by simp; omega
    go_enter Tryz.func47, Tryz.ntmps47
    go_wp2_with fail
    go_ret
    exact ⟨by rw [HW.out]; rfl, Below.refl _ _⟩
  have hd1 : decide ((50 : Int) < (n : Int)) = false := by simp; omega
  have h0s : 0 < ts.length := by rw [HN.out]; omega
  have hin0 : (0 : Int) < (n : Int) := by omega
  obtain ⟨b, o, aa, ca, rfl, hb, c0, c1, c2, c3, cr⟩ := HR.out 0 h0s
  simp only [Nat.zero_mul, Nat.add_zero] at c0 c1 c2 c3
  have CX := hid (fun wx => cIsText ts[0].kind ts[0].name aa ts[0].attrs.length ca ts[0].text wx (HZ.out _ (List.getElem_mem h0s)).1)
  by_cases hel : ts[0].name.size = 0
  case pos =>
    have HW := hid (HF.out (fun h => by obtain ⟨_, h'⟩ := h.2.2.2.1; exact h' hel))
    rw [decide_eq_true hel] at CX
    clear cr hel
    generalize ts[0].name = nm at *
    generalize ts[0].kind = kd at *
    generalize ts[0].attrs.length = al at *
    generalize ts[0].text = tx at *
    go_enter Tryz.func47, Tryz.ntmps47
    go_wp2_with fail
    refine (CX.out _).mono ?_
    rintro e w1 ⟨rfl, hb1⟩
    have HB1 := hid hb1
    clear hb1
    go_wp2_with fail
    go_ret
    exact ⟨by rw [HW.out]; rfl, HB1.out⟩
  have HEL := hid (show elN ts 0 from ⟨h0s, hel⟩)
  rw [decide_eq_false hel] at CX
  have HPA := hid (parI_at h0s)
  clear cr hel
  by_cases hp : ts[0].kind = -1
  case neg =>
    have HW := hid (HF.out (fun h => hp (by rw [← HPA.out]; exact h.2.2.1)))
    have hd2 : (ts[0].kind == -1) = false := by simpa using hp
    clear HPA hp
    generalize ts[0].name = nm at *
    generalize ts[0].kind = kd at *
    generalize ts[0].attrs.length = al at *
    generalize ts[0].text = tx at *
    go_enter Tryz.func47, Tryz.ntmps47
    go_wp2_with fail
    refine (CX.out _).mono ?_
    rintro e w1 ⟨rfl, hb1⟩
    have HB1 := hid hb1
    obtain ⟨hc, _⟩ := bcell hb1
    clear hb1
    go_wp2_with fail
    go_ret
    exact ⟨by rw [HW.out]; rfl, HB1.out⟩
  have HP := hid (show parI ts 0 = -1 by rw [HPA.out]; exact hp)
  rw [hp] at c0 CX
  clear HPA hp
  generalize ts[0].name = nm at *
  generalize ts[0].attrs.length = al at *
  generalize ts[0].text = tx at *
  go_enter Tryz.func47, Tryz.ntmps47
  go_wp2_with fail
  refine (CX.out _).mono ?_
  rintro e w1 ⟨rfl, hb1⟩
  have HB1 := hid (hb1.alloc hb1.size (.cells #[.slice none 0 0] 107))
  have hsz1 := hb1.size
  obtain ⟨hc, _⟩ := bcell hb1
  clear hb1
  go_wp2_with fail
  clear hc c0 c1 c2 c3 CX
  have M1 := hid (heap_alloc_new w1 (.cells #[.slice none 0 0] 107))
  go_loopw [29] (fun k wr => ∃ i : Nat, k = .int .i64 (i : Int) ∧ i ≤ n ∧ Hid (OkSt ts w w1.heap.size i wr)) (fun k _ => n - (intOf k).toNat)
  case atStart => exact ⟨0, rfl, Nat.zero_le _, ⟨fun j h => by omega, ⟨_, _, hsz1, M1.out, rfl, World.ownsRow_nil _ _ _ _, by decide⟩, HB1.out⟩⟩
  case round =>
    clear M1 HB1
    obtain ⟨i, rfl, hi, ST⟩ := hrel
    by_cases hlt : i < n
    case neg =>
      have hie : i = n := by omega
      have HW := hid (HT.out ⟨by rw [HN.out]; omega, by rw [HN.out]; exact h50, HP.out, HEL.out, fun j hj => ST.out.ok j (by rw [hie, ← HN.out]; exact hj)⟩)
      subst hie
      go_wp2_with fail
      go_ret
      exact ⟨by rw [HW.out]; rfl, ST.out.bel⟩
    have his : i < ts.length := by rw [HN.out]; exact hlt
    have hin : (i : Int) < (n : Int) := by omega
    obtain ⟨cur, pv, hpile⟩ := ST.out.pile
    have HPL := hid hpile
    obtain ⟨b', o', aa, ca, e', hb, k0, k1, k2, k3, cr⟩ := HR.out i his
    obtain ⟨rfl, rfl⟩ : b = b' ∧ o = o' := by cases e'; exact ⟨rfl, rfl⟩
    have c0 := (ST.out.bel.cell (p := ⟨b, o + i * 4, none⟩) hb).trans k0
    have c1 := (ST.out.bel.cell (p := ⟨b, o + i * 4 + 1, none⟩) hb).trans k1
    have c2 := (ST.out.bel.cell (p := ⟨b, o + i * 4 + 2, none⟩) hb).trans k2
    have c3 := (ST.out.bel.cell (p := ⟨b, o + i * 4 + 3, none⟩) hb).trans k3
    clear e' hpile k0 k1 k2 k3
    have HPI := hid (parI_at his)
    have HTT := hid (show nodeB ts[i] = nodeB ts[i] from rfl)
    obtain ⟨t, ht⟩ : ∃ t, ts[i] = t := ⟨_, rfl⟩
    have HZt := hid (HZ.out _ (List.getElem_mem his))
    have HTE := hid ht
    rw [ht] at c0 c1 c2 c3 cr HPI HZt
    obtain ⟨tk, tn, tl, tx⟩ := t
    simp only at c0 c1 c2 c3 cr HPI
    have HO := hid ((Below.refl wr.heap.size wr).alloc (Nat.le_refl _) (.cells #[.int .i64 tk, .string tn, .slice aa tl.length ca, .string tx] 44))
    have M0 := hid (heap_alloc_new wr (.cells #[.int .i64 tk, .string tn, .slice aa tl.length ca, .string tx] 44))
    have hgl := HPL.out.lt
    have hgw := HPL.out.ge
    have hpl := pile_len ts i
    have CD := hid (cPiDown w.heap.size w1.heap.size 0 cur 107 pv (pileF ts i) tk wr.heap.size (wr.alloc (.cells #[.int .i64 tk, .string tn, .slice aa tl.length ca, .string tx] 44)) (HPL.out.below HO.out) (by omega) (by simp) (by omega) (box4 M0.out).1.1)
    have HBA := hid (ST.out.bel.alloc ST.out.bel.size (.cells #[.int .i64 tk, .string tn, .slice aa tl.length ca, .string tx] 44))
    obtain ⟨m, hm⟩ : ∃ m, tl.length = m := ⟨_, rfl⟩
    have HM := hid hm
    rw [hm] at c2 HO M0 CD HBA
    have CR := hid cr
    clear ht cr hm
    go_wp2_with fail
    refine CD.out.mono ?_
    rintro e w2 ⟨⟨r, rfl⟩, ⟨cur2, v2, hp2, _, _⟩, hk2⟩
    have HP2 := hid hp2
    have M2 := hid ((hk2.block wr.heap.size (by simp) (by omega)).trans M0.out)
    have HB2 := hid (HBA.out.trans (hk2.below (by simp; have := ST.out.bel.size; omega) (fun k hk => by subst hk; exact hgw)))
    clear hp2 hk2 CD c0 c1 c2 c3 HPL HO M0 HBA
    rw [← HPI.out] at HP2
    have hu0 := fun j hj => (ST.out.ok j hj).2.1
    have HU := hid hu0
    have hdl := dw_len (notP (parI ts i)) (pileF ts i)
    have CS := hid (cPiSize _ _ _ _ _ _ _ w2 HP2.out)
    obtain ⟨d, hd⟩ : ∃ d, ((pileF ts i).dropWhile (notP (parI ts i))).length = d := ⟨_, rfl⟩
    have HD := hid hd
    rw [hd] at CS hdl
    clear hu0 hd
    by_cases hu : UpOk ts i
    case neg =>
      have HW := hid (HF.out (fun h => hu (h.2.2.2.2 i his).2.1))
      have hip : 0 < i := by
        rcases Nat.eq_zero_or_pos i with h' | h'
        · exact absurd (Or.inl h') hu
        · exact h'
      have hd0' : d = 0 := by
        rcases Nat.eq_zero_or_pos d with h' | h'
        · exact h'
        · exact absurd ((pile_up HU.out hip).2 (by rw [HD.out]; exact h')) hu
      subst hd0'
      go_wp2_with fail
      refine CS.out.mono ?_
      rintro e w3 ⟨rfl, rfl⟩
      go_wp2_with fail
      go_ret
      exact ⟨by rw [HW.out]; rfl, HB2.out⟩
    have HC := hid (pile_ok HU.out hu)
    rw [HD.out] at HC
    by_cases h9 : d < 9
    case neg =>
      have HW := hid (HF.out (fun h => h9 (by have h' := (h.2.2.2.2 i his).2.2.1; rw [HC.out] at h'; omega)))
      have hd9 : decide ((9 : Int) ≤ (d : Int)) = true := by simp; omega
      have hdz : ((d : Int) == 0) = false := by simp; omega
      by_cases hi0 : i = 0
      · exfalso
        have := pile_len ts i
        omega
      have hip : 0 < i := by omega
      go_wp2_with fail
      refine CS.out.mono ?_
      rintro e w3 ⟨rfl, rfl⟩
      go_wp2_with fail
      refine CS.out.mono ?_
      rintro e w3 ⟨rfl, rfl⟩
      go_wp2_with fail
      go_ret
      exact ⟨by rw [HW.out]; rfl, HB2.out⟩
    have hd9 : decide ((9 : Int) ≤ (d : Int)) = false := by simp; omega
    go_upto_region 8 with fail
    go_cut [45] from 30 to 60 (fun v wv => v = .bool false ∧ wv = w2)
    case first =>
      by_cases hi0 : i = 0
      · have hid0 : decide (0 < i) = false := by simp; omega
        clear hi0
        go_wp2_with fail
        refine CS.out.mono ?_
        rintro e w3 ⟨rfl, rfl⟩
        go_wp2_with fail
        go_meet
        exact ⟨rfl, rfl⟩
      · have hip : 0 < i := by omega
        have hdp := (pile_up HU.out hip).1 hu
        rw [HD.out] at hdp
        have hdz : ((d : Int) == 0) = false := by simp; omega
        go_wp2_with fail
        refine CS.out.mono ?_
        rintro e w3 ⟨rfl, rfl⟩
        go_wp2_with fail
        refine CS.out.mono ?_
        rintro e w3 ⟨rfl, rfl⟩
        go_wp2_with fail
        go_meet
        exact ⟨rfl, rfl⟩
    case rest =>
      obtain ⟨rfl, rfl⟩ := hcut
      obtain ⟨⟨x0, x1, x2, x3⟩, _⟩ := box4 M2.out
      clear CS hd9 hdl hpl
      have HRW := hid (HR.out.below HB2.out)
      have CRW := hid (CR.out.below HB2.out)
      have CT := hid (fun wx => cTokenOf ⟨tk, tn, tl, tx⟩ aa ca wx HZt.out)
      have CO := hid (fun wx (h : AtRow wx aa tl) => cTokenOkI (tokOfN ⟨tk, tn, tl, tx⟩) aa ca wx (by rw [tokOfN_attrs]; exact h) (tokOfN_sz HZt.out))
      rw [tokOfN_B] at CO
      have CB := hid (fun wx (h : TkRow wx (some ⟨b, o, none⟩) ts) => cBeside (some ⟨b, o, none⟩) cap ts i wx h his (by rw [HN.out]; exact hn) HZ.out)
      rw [HN.out] at CB
      have HFN : Hid (nodeB ⟨tk, tn, tl, tx⟩ = false → V = false) := fun h => HF.out (fun hh => by
        obtain ⟨⟨_, h1⟩, _⟩ := hh.2.2.2.2 i his
        rw [HTE.out, h] at h1
        cases h1)
      have e3 : tkV ⟨tk, tn, tl, tx⟩ aa ca = .agg #[.int .i64 tk, .string tn, .slice aa m ca, .string tx] := by rw [← HM.out]
      rw [e3] at CT
      generalize tkV (tokOfN ⟨tk, tn, tl, tx⟩) aa ca = TV at *
      clear e3
      cases q1 : nodeB ⟨tk, tn, tl, tx⟩
      · rw [q1] at CO HFN
        have HW := hid (HFN.out rfl)
        clear q1 CB
        go_wp2_with fail
        refine (CT.out _).mono ?_
        rintro e w3 ⟨rfl, hb3⟩
        have HB3 := hid (bb HB2.out hb3)
        have CR3 := hid (CRW.out.below hb3)
        clear hb3
        go_wp2_with fail
        refine (CO.out _ CR3.out).mono ?_
        rintro e w4 ⟨rfl, hb4⟩
        have HB4 := hid (bb HB3.out hb4)
        clear hb4
        go_wp2_with fail
        go_ret
        exact ⟨by rw [HW.out]; rfl, HB4.out⟩
      rw [q1] at CO
      have HQ1 := hid q1
      clear q1 HFN
      cases q2 : twinB ts i
      case true =>
        have HW := hid (HF.out (fun h => by rw [twinB_f (h.2.2.2.2 i his).2.2.2] at q2; cases q2))
        rw [q2] at CB
        clear q2
        go_wp2_with fail
        refine (CT.out _).mono ?_
        rintro e w3 ⟨rfl, hb3⟩
        have HB3 := hid (bb HB2.out hb3)
        have CR3 := hid (CRW.out.below hb3)
        clear hb3
        go_wp2_with fail
        refine (CO.out _ CR3.out).mono ?_
        rintro e w4 ⟨rfl, hb4⟩
        have HB4 := hid (bb HB3.out hb4)
        clear hb4
        go_wp2_with fail
        refine (CB.out _ (HR.out.below HB4.out)).mono ?_
        rintro e w5 ⟨rfl, hb5⟩
        have HB5 := hid (bb HB4.out hb5)
        clear hb5
        go_wp2_with fail
        go_ret
        exact ⟨by rw [HW.out]; rfl, HB5.out⟩
      rw [q2] at CB
      have HOK := hid (show ∀ j, j < i + 1 → NodeOk ts j from fun j hj => by
        rcases Nat.lt_or_eq_of_le (Nat.le_of_lt_succ hj) with h' | rfl
        · exact ST.out.ok j h'
        · exact ⟨⟨his, by rw [HTE.out]; exact HQ1.out⟩, hu, by rw [HC.out]; omega, fun h => by rw [twinB_t h] at q2; cases q2⟩)
      clear q2
      go_wp2_with fail
      refine (CT.out _).mono ?_
      rintro e w3 ⟨rfl, hb3⟩
      have HB3 := hid (bb HB2.out hb3)
      have CR3 := hid (CRW.out.below hb3)
      have M3 := hid (blk_below M2.out hb3)
      have HP3 := hid (HP2.out.below hb3)
      clear hb3 x0 x1 x2 x3
      go_wp2_with fail
      refine (CO.out _ CR3.out).mono ?_
      rintro e w4 ⟨rfl, hb4⟩
      have HB4 := hid (bb HB3.out hb4)
      have M4 := hid (blk_below M3.out hb4)
      have HP4 := hid (HP3.out.below hb4)
      clear hb4
      go_wp2_with fail
      refine (CB.out _ (HR.out.below HB4.out)).mono ?_
      rintro e w5 ⟨rfl, hb5⟩
      have HB5 := hid (bb HB4.out hb5)
      have M5 := hid (blk_below M4.out hb5)
      have HP5 := hid (HP4.out.below hb5)
      obtain ⟨⟨x0, x1, x2, x3⟩, _⟩ := box4 M5.out
      have CX := hid (fun wx => cIsText tk tn aa m ca tx wx HZt.out.1)
      have HEB := hid (elB_at his)
      rw [HTE.out] at HEB
      simp only at HEB
      clear hb5 CT CO CB
      by_cases e1 : tn.size = 0
      · rw [decide_eq_true e1] at CX HEB
        have HPF := hid (show pileF ts (i + 1) = (pileF ts i).dropWhile (notP (parI ts i)) by rw [pileF, HEB.out]; rfl)
        go_wp2_with fail
        refine (CX.out _).mono ?_
        rintro e w6 ⟨rfl, hb6⟩
        have HB6 := hid (bb HB5.out hb6)
        have HP6 := hid (HP5.out.below hb6)
        clear hb6
        go_wp2_with fail
        go_roundw
        case rel => exact ⟨i + 1, by go_num, by omega, ⟨HOK.out, ⟨_, _, by rw [HPF.out]; exact HP6.out⟩, HB6.out⟩⟩
        case measure => simp [intOf]; omega
      · rw [decide_eq_false e1] at CX HEB
        have HPF := hid (show pileF ts (i + 1) = i :: (pileF ts i).dropWhile (notP (parI ts i)) by rw [pileF, HEB.out]; rfl)
        go_wp2_with fail
        refine (CX.out _).mono ?_
        rintro e w6 ⟨rfl, hb6⟩
        have HB6 := hid (bb HB5.out hb6)
        have HP6 := hid (HP5.out.below hb6)
        have CL := hid (cPiLay _ _ _ _ _ _ i _ w6 HP6.out (by rw [HD.out]; omega))
        clear hb6
        go_wp2_with fail
        refine CL.out.mono ?_
        rintro e w7 ⟨rfl, ⟨v7, hp7⟩, hb7⟩
        have HP7 := hid hp7
        have HB7 := hid (HB6.out.trans hb7)
        clear hp7 hb7
        go_wp2_with fail
        go_roundw
        case rel => exact ⟨i + 1, by go_num, by omega, ⟨HOK.out, ⟨_, _, by rw [HPF.out]; exact HP7.out⟩, HB7.out⟩⟩
        case measure => simp [intOf]; omega

end Go.Proofs.YtkejmifkjgpdjaaGreat
