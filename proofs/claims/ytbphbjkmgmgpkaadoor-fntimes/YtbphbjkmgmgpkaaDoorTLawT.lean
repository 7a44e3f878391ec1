/- The law on times: whatever is drawn, it answers true. -/
import Derived.Test.YtbphbjkmgmgpkaaDoorTDrawO
import Derived.Test.YtbphbjkmgmgpkaaDoorTOfI
import Derived.Test.YtbphbjkmgmgpkaaDoorTOfS
import Derived.Laws.Cover1
import Derived.Sort.Walk0
namespace Go.Proofs.YtbphbjkmgmgpkaaDoor
open Go.RowKit
set_option linter.unusedVariables false
set_option linter.unusedSimpArgs false

theorem less_text {x t : Nat} (hx : x ≤ 3155759999) (ht : t ≤ 3155759999) : Op.bytesLess (textOf x) (textOf t) = decide (x < t) := by
  rw [bytesLess_eq]
  by_cases h : x < t
  · rw [decide_eq_true h, decide_eq_true (isText_lt (textOf_is hx) (textOf_is ht) h)]
  · rw [decide_eq_false h, decide_eq_false]
    intro hl
    rcases Nat.lt_or_ge t x with h' | h'
    · exact absurd (List.lt_trans hl (isText_lt (textOf_is ht) (textOf_is hx) h')) (list_lt_irrefl _)
    · have : x = t := by omega
      rw [this] at hl
      exact list_lt_irrefl _ hl

theorem timeOf_cases (l : List UInt8) : timeOf l = (0, false) ∨ ∃ n : Nat, n ≤ 3155759999 ∧ textOf n = l ∧ timeOf l = ((n : Int), true) := by
  by_cases h : ∃ n : Nat, n ≤ 3155759999 ∧ textOf n = l
  · obtain ⟨n, h1, h2⟩ := h
    exact .inr ⟨n, h1, h2, timeOf_yes h1 h2⟩
  · exact .inl (timeOf_no fun t ht e => h ⟨t, ht, e⟩)

theorem tl (b : ByteArray) : b.toList = b.data.toList := ByteArray.toList_eq b

set_option maxHeartbeats 16000000 in
set_option maxRecDepth 4000 in
theorem law_times (a : Option Addr) (len cap : Nat) (w : World) (hcr : CodeRow w a len) (hL : Laid w) :
    Calls Tryd.prog 3 #[.slice a len cap] w fun e w' => e = .returned (.bool true) ∧ Below w.heap.size w w' := by
  have HR : Hid (CodeRow w a len) := hcr
  have HL : Hid (Laid w) := hL
  clear hcr hL
  by_cases hbig : len ≤ 4096
  · go_enter Tryd.func3, Tryd.ntmps3
    go_wp2_with fail
    refine (cBig_no a len cap _ hbig).mono ?_
    rintro e0 w' ⟨rfl, rfl⟩
    have HB : Hid (Below w'.heap.size w' w') := Below.refl _ _
    go_wp2_with fail
    refine (cTextD a len cap _ hbig (code_below HR.out HB.out)).mono ?_
    rintro e0 wx ⟨t, rfl, ht1, ht2, hb⟩
    replace HB : Hid (Below w'.heap.size w' wx) := HB.out.trans (hb.mono HB.out.size)
    clear hb
    have TI := fun w hL => cTextI t w hL
    have TS := fun w => cTextS t w
    obtain ⟨S, hS⟩ : ∃ S : ByteArray, (⟨(textOf t).toArray⟩ : ByteArray) = S := ⟨_, rfl⟩
    have HS : Hid (S.data.toList = textOf t) := by show S.data.toList = textOf t; rw [← hS]
    rw [hS] at TI TS
    clear hS
    go_wp2_with fail
    refine (TI _ (HL.out.below HB.out)).mono ?_
    rintro e0 wx ⟨rfl, hb⟩
    replace HB : Hid (Below w'.heap.size w' wx) := HB.out.trans (hb.mono HB.out.size)
    clear hb
    go_wp2_with fail
    refine (cOfD a len cap _ hbig (code_below HR.out HB.out)).mono ?_
    rintro e0 wx ⟨u, rfl, hb⟩
    replace HB : Hid (Below w'.heap.size w' wx) := HB.out.trans (hb.mono HB.out.size)
    clear hb
    have OI := fun w hL => cOfI u w hL
    have OS := fun w => cOfS u w
    have SI := fun w hL => cOfI S w hL
    rw [HS.out] at SI
    have hcs := timeOf_cases u.data.toList
    obtain ⟨T, hT⟩ : ∃ T : Int × Bool, timeOf u.data.toList = T := ⟨_, rfl⟩
    rw [hT] at OI OS hcs
    clear hT
    obtain ⟨x, is⟩ := T
    go_wp2_with fail
    refine (OI _ (HL.out.below HB.out)).mono ?_
    rintro e0 wx ⟨rfl, hb⟩
    replace HB : Hid (Below w'.heap.size w' wx) := HB.out.trans (hb.mono HB.out.size)
    clear hb
    go_wp2_with fail
    refine (cDaysD a len cap _ hbig (code_below HR.out HB.out)).mono ?_
    rintro e0 wx ⟨y, m, rfl, hb⟩
    replace HB : Hid (Below w'.heap.size w' wx) := HB.out.trans (hb.mono HB.out.size)
    clear hb
    go_wp2_with fail
    refine (OS _).mono ?_
    rintro e0 wx ⟨rfl, hb⟩
    replace HB : Hid (Below w'.heap.size w' wx) := HB.out.trans (hb.mono HB.out.size)
    clear hb
    have DI := fun w hM => cDaysI y m w hM
    have DS := fun w => cDaysS y m w
    obtain ⟨dI, hdI⟩ : ∃ d : Int, daysIn y m = d := ⟨_, rfl⟩
    rw [hdI] at DI DS
    clear hdI OI OS
    go_wp2_with fail
    refine (TS _).mono ?_
    rintro e0 wx ⟨rfl, hb⟩
    replace HB : Hid (Below w'.heap.size w' wx) := HB.out.trans (hb.mono HB.out.size)
    clear hb
    go_wp2_with fail
    refine (DI _ (HL.out.below HB.out).1).mono ?_
    rintro e0 wx ⟨rfl, hb⟩
    replace HB : Hid (Below w'.heap.size w' wx) := HB.out.trans (hb.mono HB.out.size)
    clear hb
    go_wp2_with fail
    refine (DS _).mono ?_
    rintro e0 wx ⟨rfl, hb⟩
    replace HB : Hid (Below w'.heap.size w' wx) := HB.out.trans (hb.mono HB.out.size)
    clear hb
    clear DI DS TS
    rcases hcs with hc | ⟨q, hq, hqu, hc⟩
    · cases hc
      by_cases hr : 0 ≤ t ∧ t ≤ 3155759999
      · obtain ⟨n, rfl⟩ : ∃ n : Nat, t = n := ⟨t.toNat, by omega⟩
        have hn : n ≤ 3155759999 := by omega
        rw [timeOf_yes hn rfl] at SI
        have hz : S.size = 20 := by rw [sz, HS.out]; exact isText_length (textOf_is hn)
        have hSe : (S.toList == []) = false := by rw [tl, beq_eq_false_iff_ne]; intro h; rw [sz, h] at hz; simp at hz
        have hSf : (S.toList == (ByteArray.mk #[]).toList) = false := by rw [tl (ByteArray.mk #[])]; exact hSe
        have hzi : (S.size : Int) = 20 := by omega
        by_cases hmx : n = 3155759999
        · have hmi : ((n : Int) == 3155759999) = true := by rw [beq_iff_eq]; omega
          clear hmx hr hn hz
          go_wp2_with fail
          refine (SI _ (HL.out.below HB.out)).mono ?_
          rintro e0 wx ⟨rfl, hb⟩
          replace HB : Hid (Below w'.heap.size w' wx) := HB.out.trans (hb.mono HB.out.size)
          clear hb
          go_wp2_with fail
          go_ret
          exact ⟨rfl, HB.out⟩
        · have hmi : ((n : Int) == 3155759999) = false := by rw [beq_eq_false_iff_ne]; omega
          have NI := fun w hL => cTextI ((n + 1 : Nat) : Int) w hL
          have hl1 := less_text (x := n + 1) (t := n) (by omega) hn
          have hne : textOf ((n + 1 : Nat) : Int) ≠ textOf (n : Int) := fun h => by have := textOf_inj (t := n + 1) (t' := n) (by omega) hn h; omega
          obtain ⟨R, hR⟩ : ∃ R : ByteArray, (⟨(textOf ((n + 1 : Nat) : Int)).toArray⟩ : ByteArray) = R := ⟨_, rfl⟩
          have hRl : R.data.toList = textOf ((n + 1 : Nat) : Int) := by rw [← hR]
          have g1 : Op.bytesLess R.toList S.toList = false := by rw [tl, tl, HS.out, hRl, hl1]; simp
          have g2 : (R.toList == S.toList) = false := by rw [tl, tl, HS.out, hRl, beq_eq_false_iff_ne]; exact hne
          rw [hR, show ((n + 1 : Nat) : Int) = (n : Int) + 1 by omega] at NI
          clear hR hRl hl1 hne hmx hr hn hz
          go_wp2_with fail
          refine (SI _ (HL.out.below HB.out)).mono ?_
          rintro e0 wx ⟨rfl, hb⟩
          replace HB : Hid (Below w'.heap.size w' wx) := HB.out.trans (hb.mono HB.out.size)
          clear hb
          go_wp2_with fail
          refine (NI _ (HL.out.below HB.out)).mono ?_
          rintro e0 wx ⟨rfl, hb⟩
          replace HB : Hid (Below w'.heap.size w' wx) := HB.out.trans (hb.mono HB.out.size)
          clear hb
          go_wp2_with fail
          go_ret
          exact ⟨rfl, HB.out⟩
      · have hSe : S = ⟨#[]⟩ := strEmpty S (by rw [HS.out, textOf_out hr])
        subst hSe
        have hor : t < 0 ∨ (¬ t < 0 ∧ 3155759999 < t) := by omega
        clear hr SI
        rcases hor with h | ⟨h, h2⟩
        · go_wp2_with fail
          go_ret
          exact ⟨rfl, HB.out⟩
        · go_wp2_with fail
          go_ret
          exact ⟨rfl, HB.out⟩
    · cases hc
      have HQ : Hid (textOf q = u.data.toList) := hqu
      have XI := fun w hL => cTextI (q : Int) w hL
      rw [hqu, show (⟨u.data.toList.toArray⟩ : ByteArray) = u from rfl] at XI
      clear hqu
      by_cases hr : 0 ≤ t ∧ t ≤ 3155759999
      · obtain ⟨n, rfl⟩ : ∃ n : Nat, t = n := ⟨t.toNat, by omega⟩
        have hn : n ≤ 3155759999 := by omega
        rw [timeOf_yes hn rfl] at SI
        have hz : S.size = 20 := by rw [sz, HS.out]; exact isText_length (textOf_is hn)
        have hSe : (S.toList == []) = false := by rw [tl, beq_eq_false_iff_ne]; intro h; rw [sz, h] at hz; simp at hz
        have hSf : (S.toList == (ByteArray.mk #[]).toList) = false := by rw [tl (ByteArray.mk #[])]; exact hSe
        have hless : Op.bytesLess u.toList S.toList = decide (q < n) := by rw [tl, tl, HS.out, ← HQ.out]; exact less_text hq hn
        rcases (show q < n ∨ ¬ q < n from Nat.lt_or_ge q n |>.imp id Nat.not_lt.2) with hlt | hlt
        · rw [decide_eq_true hlt] at hless
          have hzi : (S.size : Int) = 20 := by omega
          by_cases hmx : n = 3155759999
          · have hmi : ((n : Int) == 3155759999) = true := by rw [beq_iff_eq]; omega
            clear hmx hr hn hz
            go_wp2_with fail
            refine (XI _ (HL.out.below HB.out)).mono ?_
            rintro e0 wx ⟨rfl, hb⟩
            replace HB : Hid (Below w'.heap.size w' wx) := HB.out.trans (hb.mono HB.out.size)
            clear hb
            go_wp2_with fail
            refine (SI _ (HL.out.below HB.out)).mono ?_
            rintro e0 wx ⟨rfl, hb⟩
            replace HB : Hid (Below w'.heap.size w' wx) := HB.out.trans (hb.mono HB.out.size)
            clear hb
            go_wp2_with fail
            go_ret
            exact ⟨rfl, HB.out⟩
          · have hmi : ((n : Int) == 3155759999) = false := by rw [beq_eq_false_iff_ne]; omega
            have NI := fun w hL => cTextI ((n + 1 : Nat) : Int) w hL
            have hl1 := less_text (x := n + 1) (t := n) (by omega) hn
            have hne : textOf ((n + 1 : Nat) : Int) ≠ textOf (n : Int) := fun h => by have := textOf_inj (t := n + 1) (t' := n) (by omega) hn h; omega
            obtain ⟨R, hR⟩ : ∃ R : ByteArray, (⟨(textOf ((n + 1 : Nat) : Int)).toArray⟩ : ByteArray) = R := ⟨_, rfl⟩
            have hRl : R.data.toList = textOf ((n + 1 : Nat) : Int) := by rw [← hR]
            have g1 : Op.bytesLess R.toList S.toList = false := by rw [tl, tl, HS.out, hRl, hl1]; simp
            have g2 : (R.toList == S.toList) = false := by rw [tl, tl, HS.out, hRl, beq_eq_false_iff_ne]; exact hne
            rw [hR, show ((n + 1 : Nat) : Int) = (n : Int) + 1 by omega] at NI
            clear hR hRl hl1 hne hmx hr hn hz
            go_wp2_with fail
            refine (XI _ (HL.out.below HB.out)).mono ?_
            rintro e0 wx ⟨rfl, hb⟩
            replace HB : Hid (Below w'.heap.size w' wx) := HB.out.trans (hb.mono HB.out.size)
            clear hb
            go_wp2_with fail
            refine (SI _ (HL.out.below HB.out)).mono ?_
            rintro e0 wx ⟨rfl, hb⟩
            replace HB : Hid (Below w'.heap.size w' wx) := HB.out.trans (hb.mono HB.out.size)
            clear hb
            go_wp2_with fail
            refine (NI _ (HL.out.below HB.out)).mono ?_
            rintro e0 wx ⟨rfl, hb⟩
            replace HB : Hid (Below w'.heap.size w' wx) := HB.out.trans (hb.mono HB.out.size)
            clear hb
            go_wp2_with fail
            go_ret
            exact ⟨rfl, HB.out⟩
        · rw [decide_eq_false hlt] at hless
          have hzi : (S.size : Int) = 20 := by omega
          by_cases hmx : n = 3155759999
          · have hmi : ((n : Int) == 3155759999) = true := by rw [beq_iff_eq]; omega
            clear hmx hr hn hz
            go_wp2_with fail
            refine (XI _ (HL.out.below HB.out)).mono ?_
            rintro e0 wx ⟨rfl, hb⟩
            replace HB : Hid (Below w'.heap.size w' wx) := HB.out.trans (hb.mono HB.out.size)
            clear hb
            go_wp2_with fail
            refine (SI _ (HL.out.below HB.out)).mono ?_
            rintro e0 wx ⟨rfl, hb⟩
            replace HB : Hid (Below w'.heap.size w' wx) := HB.out.trans (hb.mono HB.out.size)
            clear hb
            go_wp2_with fail
            go_ret
            exact ⟨rfl, HB.out⟩
          · have hmi : ((n : Int) == 3155759999) = false := by rw [beq_eq_false_iff_ne]; omega
            have NI := fun w hL => cTextI ((n + 1 : Nat) : Int) w hL
            have hl1 := less_text (x := n + 1) (t := n) (by omega) hn
            have hne : textOf ((n + 1 : Nat) : Int) ≠ textOf (n : Int) := fun h => by have := textOf_inj (t := n + 1) (t' := n) (by omega) hn h; omega
            obtain ⟨R, hR⟩ : ∃ R : ByteArray, (⟨(textOf ((n + 1 : Nat) : Int)).toArray⟩ : ByteArray) = R := ⟨_, rfl⟩
            have hRl : R.data.toList = textOf ((n + 1 : Nat) : Int) := by rw [← hR]
            have g1 : Op.bytesLess R.toList S.toList = false := by rw [tl, tl, HS.out, hRl, hl1]; simp
            have g2 : (R.toList == S.toList) = false := by rw [tl, tl, HS.out, hRl, beq_eq_false_iff_ne]; exact hne
            rw [hR, show ((n + 1 : Nat) : Int) = (n : Int) + 1 by omega] at NI
            clear hR hRl hl1 hne hmx hr hn hz
            go_wp2_with fail
            refine (XI _ (HL.out.below HB.out)).mono ?_
            rintro e0 wx ⟨rfl, hb⟩
            replace HB : Hid (Below w'.heap.size w' wx) := HB.out.trans (hb.mono HB.out.size)
            clear hb
            go_wp2_with fail
            refine (SI _ (HL.out.below HB.out)).mono ?_
            rintro e0 wx ⟨rfl, hb⟩
            replace HB : Hid (Below w'.heap.size w' wx) := HB.out.trans (hb.mono HB.out.size)
            clear hb
            go_wp2_with fail
            refine (NI _ (HL.out.below HB.out)).mono ?_
            rintro e0 wx ⟨rfl, hb⟩
            replace HB : Hid (Below w'.heap.size w' wx) := HB.out.trans (hb.mono HB.out.size)
            clear hb
            go_wp2_with fail
            go_ret
            exact ⟨rfl, HB.out⟩
      · have hSe : S = ⟨#[]⟩ := strEmpty S (by rw [HS.out, textOf_out hr])
        subst hSe
        have hor : t < 0 ∨ (¬ t < 0 ∧ 3155759999 < t) := by omega
        clear hr SI
        go_wp2_with fail
        refine (XI _ (HL.out.below HB.out)).mono ?_
        rintro e0 wx ⟨rfl, hb⟩
        replace HB : Hid (Below w'.heap.size w' wx) := HB.out.trans (hb.mono HB.out.size)
        clear hb
        rcases hor with h | ⟨h, h2⟩
        · go_wp2_with fail
          go_ret
          exact ⟨rfl, HB.out⟩
        · go_wp2_with fail
          go_ret
          exact ⟨rfl, HB.out⟩
  · go_enter Tryd.func3, Tryd.ntmps3
    go_wp2_with fail
    refine (cBig_yes a len cap _ hbig).mono ?_
    rintro e0 w' ⟨rfl, rfl⟩
    go_wp2_with fail
    go_ret
    exact ⟨rfl, Below.refl _ _⟩

end Go.Proofs.YtbphbjkmgmgpkaaDoor
