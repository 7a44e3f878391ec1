/- Contract of TokenOk of the specification. -/
import Derived.Test.YtkcmagfbacmllaaNOk
namespace Go.Proofs.Ytkcmagfbacmllaa
open Go.RowKit
set_option linter.unusedVariables false
set_option linter.unusedSimpArgs false

def textB (s : ByteArray) : Bool := plainL s.data.toList && decide (1 ≤ s.size ∧ s.size ≤ 60)

/-- What TokenOk answers. -/
noncomputable def tokB (t : Tk) : Bool :=
  if t.kind = 1 then nameL t.name.data.toList && (attrsB t.attrs && decide (t.text.size = 0))
  else if t.kind = 2 then nameL t.name.data.toList && (decide (t.attrs.length = 0) && decide (t.text.size = 0))
  else if t.kind = 3 then decide (t.name.size = 0) && (decide (t.attrs.length = 0) && textB t.text)
  else false

theorem empty_beq (s : ByteArray) : (s.toList == (⟨#[]⟩ : ByteArray).toList) = decide (s.size = 0) := by
  rw [str_beq]
  by_cases h : s.size = 0
  · rw [decide_eq_true h]
    refine decide_eq_true (ByteArray.ext ?_)
    exact Array.eq_empty_of_size_eq_zero h
  · rw [decide_eq_false h]
    refine decide_eq_false (fun e => h ?_)
    rw [e]; rfl

theorem empty_is (s : ByteArray) : s.toList.isEmpty = decide (s.size = 0) := by
  have e : s.size = s.data.toList.length := rfl
  rw [ByteArray.toList_eq, e]
  cases s.data.toList <;> simp

theorem cL7Text (s : ByteArray) (w : World) (hs : s.size ≤ 1048576) :
    Calls Try.prog 47 #[.string s] w fun e w' => e = .returned (.bool (textB s)) ∧ w' = w := by
  have CP := fun w => c_spec_PlainOk s w (by unfold maxLen; omega)
  have CI := fun w => c_spec_In7 (s.size : Int) 1 60 w
  by_cases q : plainL s.data.toList = true
  · have e : textB s = decide ((1 : Int) ≤ (s.size : Int) ∧ (s.size : Int) ≤ 60) := by
      unfold textB; rw [q, Bool.true_and]; congr 1; exact propext (by omega)
    rw [e]
    rw [q] at CP
    obtain ⟨B, hB⟩ : ∃ B, decide ((1 : Int) ≤ (s.size : Int) ∧ (s.size : Int) ≤ 60) = B := ⟨_, rfl⟩
    rw [hB] at CI ⊢
    clear hB q e
    go_enter Try.func47, Try.ntmps47
    go_wp2_with fail
    refine (CP _).mono ?_
    rintro e w1 ⟨rfl, rfl⟩
    go_wp2_with fail
    refine (CI _).mono ?_
    rintro e w1 ⟨rfl, rfl⟩
    go_wp2_with fail
    go_ret
    exact ⟨rfl, rfl⟩
  · have q : plainL s.data.toList = false := by simpa using q
    rw [show textB s = false by unfold textB; rw [q]; rfl]
    rw [q] at CP
    clear q
    go_enter Try.func47, Try.ntmps47
    go_wp2_with fail
    refine (CP _).mono ?_
    rintro e w1 ⟨rfl, rfl⟩
    go_wp2_with fail
    go_ret
    exact ⟨rfl, rfl⟩

set_option maxRecDepth 8000 in
set_option maxHeartbeats 2000000 in
theorem cTokenOkS (t : Tk) (a : Option Addr) (cap : Nat) (w : World) (hR : AtRow w a t.attrs) (hz : TkSz 1048576 t) :
    Calls Try.prog 60 #[tkV t a cap] w fun e w' => e = .returned (.bool (tokB t)) ∧ Below w.heap.size w w' := by
  obtain ⟨k, name, l, text⟩ := t
  obtain ⟨h1, h2, h3, h4⟩ := hz
  simp only at hR h1 h2 h3 h4
  have HB0 := hid ((Below.refl w.heap.size w).alloc (Nat.le_refl _) (.cells #[.int .i64 k, .string name, .slice a l.length cap, .string text] 78))
  have HR := hid (hR.below HB0.out)
  have CN := fun w => c_spec_NameOk name w h1
  have CA := fun (w : World) (hR : AtRow w a l) => cL7Attrs a cap l w hR h3 h2
  have CX := fun w => cL7Text text w h4
  have E1 := empty_is name
  have E2 := empty_is text
  obtain ⟨V, hV⟩ : ∃ V, tokB ⟨k, name, l, text⟩ = V := ⟨_, rfl⟩
  have HV := hid hV
  rw [hV]
  clear hV hR h3
  simp only [tkV]
  obtain ⟨n, hn⟩ : ∃ n, l.length = n := ⟨_, rfl⟩
  have HN := hid hn
  rw [hn] at CA HB0 HR h2 ⊢
  clear hn
  have E3 : ((n : Int) == 0) = decide (n = 0) := by
    by_cases h : n = 0
    · subst h; rfl
    · rw [decide_eq_false h]; simp; omega
  by_cases k1 : k = 1
  · subst k1
    have hv := HV.out
    unfold tokB at hv
    simp only [if_true] at hv
    cases q1 : nameL name.data.toList
    · rw [q1] at hv CN
      have HW := hid (show V = false from hv.symm)
      clear hv CA CX
      go_enter Try.func60, Try.ntmps60
      go_wp2_with fail
      refine (CN _).mono ?_
      rintro e w1 ⟨rfl, hb1⟩
      have HB1 := hid (bb HB0.out hb1)
      go_wp2_with fail
      go_ret
      exact ⟨by rw [HW.out]; rfl, HB1.out⟩
    · rw [q1, Bool.true_and] at hv
      rw [q1] at CN
      cases q2 : attrsB l
      · rw [q2] at hv CA
        have HW := hid (show V = false from hv.symm)
        clear hv CX
        go_enter Try.func60, Try.ntmps60
        go_wp2_with fail
        refine (CN _).mono ?_
        rintro e w1 ⟨rfl, hb1⟩
        obtain ⟨hc, hf⟩ := bcell hb1
        have HB1 := hid (bb HB0.out hb1)
        have HR1 := hid (HR.out.below hb1)
        go_wp2_with fail
        refine (CA _ HR1.out).mono ?_
        rintro e w2 ⟨rfl, hb2⟩
        have HB2 := hid (bb HB1.out hb2)
        go_wp2_with fail
        go_ret
        exact ⟨by rw [HW.out]; rfl, HB2.out⟩
      · rw [q2, Bool.true_and] at hv
        rw [q2] at CA
        have HW := hid hv
        rw [hv] at E2
        clear hv CX
        go_enter Try.func60, Try.ntmps60
        go_wp2_with fail
        refine (CN _).mono ?_
        rintro e w1 ⟨rfl, hb1⟩
        obtain ⟨hc, hf⟩ := bcell hb1
        have HB1 := hid (bb HB0.out hb1)
        have HR1 := hid (HR.out.below hb1)
        have hz1 : w.heap.size < w1.heap.size := by have := hb1.size; simp at this; omega
        go_wp2_with fail
        refine (CA _ HR1.out).mono ?_
        rintro e w2 ⟨rfl, hb2⟩
        obtain ⟨hc2, hf2⟩ := bcell hb2
        have HB2 := hid (bb HB1.out hb2)
        go_wp2_with fail
        go_ret
        exact ⟨rfl, HB2.out⟩
  · by_cases k2 : k = 2
    · subst k2
      have hv := HV.out
      unfold tokB at hv
      simp only [show ¬ ((2 : Int) = 1) by decide, if_false, if_true] at hv
      rw [HN.out] at hv
      cases q1 : nameL name.data.toList
      · rw [q1] at hv CN
        have HW := hid (show V = false from hv.symm)
        clear hv CA CX
        go_enter Try.func60, Try.ntmps60
        go_wp2_with fail
        refine (CN _).mono ?_
        rintro e w1 ⟨rfl, hb1⟩
        have HB1 := hid (bb HB0.out hb1)
        go_wp2_with fail
        go_ret
        exact ⟨by rw [HW.out]; rfl, HB1.out⟩
      · rw [q1, Bool.true_and] at hv
        rw [q1] at CN
        cases q2 : decide (n = 0)
        · rw [q2] at hv E3
          have HW := hid (show V = false from hv.symm)
          clear hv CX CA
          go_enter Try.func60, Try.ntmps60
          go_wp2_with fail
          refine (CN _).mono ?_
          rintro e w1 ⟨rfl, hb1⟩
          obtain ⟨hc, hf⟩ := bcell hb1
          have HB1 := hid (bb HB0.out hb1)
          go_wp2_with fail
          go_ret
          exact ⟨by rw [HW.out]; rfl, HB1.out⟩
        · rw [q2, Bool.true_and] at hv
          rw [q2] at E3
          rw [hv] at E2
          clear hv CX CA
          go_enter Try.func60, Try.ntmps60
          go_wp2_with fail
          refine (CN _).mono ?_
          rintro e w1 ⟨rfl, hb1⟩
          obtain ⟨hc, hf⟩ := bcell hb1
          have HB1 := hid (bb HB0.out hb1)
          go_wp2_with fail
          go_ret
          exact ⟨rfl, HB1.out⟩
    · by_cases k3 : k = 3
      · subst k3
        have hv := HV.out
        unfold tokB at hv
        simp only [show ¬ ((3 : Int) = 1) by decide, show ¬ ((3 : Int) = 2) by decide, if_false, if_true] at hv
        rw [HN.out] at hv
        cases q1 : decide (name.size = 0)
        · rw [q1] at hv E1
          have HW := hid (show V = false from hv.symm)
          clear hv CA CX CN
          go_enter Try.func60, Try.ntmps60
          go_wp2_with fail
          go_ret
          exact ⟨by rw [HW.out]; rfl, HB0.out⟩
        · rw [q1, Bool.true_and] at hv
          rw [q1] at E1
          cases q2 : decide (n = 0)
          · rw [q2] at hv E3
            have HW := hid (show V = false from hv.symm)
            clear hv CX CA CN
            go_enter Try.func60, Try.ntmps60
            go_wp2_with fail
            go_ret
            exact ⟨by rw [HW.out]; rfl, HB0.out⟩
          · rw [q2, Bool.true_and] at hv
            rw [q2] at E3
            rw [hv] at CX
            clear hv CA CN
            go_enter Try.func60, Try.ntmps60
            go_wp2_with fail
            refine (CX _).mono ?_
            rintro e w1 ⟨rfl, rfl⟩
            go_wp2_with fail
            go_ret
            exact ⟨rfl, HB0.out⟩
      · have hv := HV.out
        unfold tokB at hv
        simp only [k1, k2, k3, if_false] at hv
        have HW := hid (show V = false from hv.symm)
        have d1 : (k == 1) = false := by simpa using k1
        have d2 : (k == 2) = false := by simpa using k2
        have d3 : (k == 3) = false := by simpa using k3
        clear hv CA CX CN
        go_enter Try.func60, Try.ntmps60
        go_wp2_with fail
        go_ret
        exact ⟨by rw [HW.out]; rfl, HB0.out⟩

end Go.Proofs.Ytkcmagfbacmllaa
