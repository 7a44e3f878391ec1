/- Contracts of the specification's l1Of, l9Declares, l9Right. -/
import Derived.Test.YtlghhemmmjahnaaXMath
import Derived.Test.YtlghhemmmjahnaaSNNames
import Derived.Test.YtlghhemmmjahnaaNOkT
namespace Go.Proofs.Ytlghhemmmjahnaa
open Go.RowKit
set_option linter.unusedVariables false
set_option linter.unusedSimpArgs false

def inB (signs : ByteArray) (c : UInt8) : Bool := signs.data.toList.any fun d => decide (d = c)

theorem u8_beq (a b : UInt8) : ((a.toNat : Int) == (b.toNat : Int)) = decide (a = b) := by
  by_cases h : a = b
  · subst h; simp
  · rw [decide_eq_false h]
    have : ¬ a.toNat = b.toNat := fun e => h (UInt8.toNat_inj.1 e)
    simp
    omega

set_option maxHeartbeats 2000000 in
theorem c_spec_l1Of (signs : ByteArray) (most : Nat) (s : ByteArray) (w : World) (hs : s.size ≤ 1048576) (hg : signs.size ≤ 256) (hm : most ≤ 1000) :
    Calls Try.prog 76 #[.string s, .string signs, .int .i64 (most : Int)] w fun e w' => e = .returned (.bool (ofB signs most s)) ∧ Below w.heap.size w w' := by
  obtain ⟨V, hV⟩ : ∃ V, ofB signs most s = V := ⟨_, rfl⟩
  have HV := hid hV
  rw [hV]
  clear hV
  go_enter Try.func76, Try.ntmps76
  go_wp2_with fail
  go_loopw [7] (fun k wr => ∃ i : Nat, k = .int .i64 (i : Int) ∧ i ≤ s.size ∧ Hid ((s.data.toList.take i).all (inB signs) = true) ∧ Hid (Below w.heap.size w wr)) (fun k _ => s.size - (intOf k).toNat)
  case atStart => exact ⟨0, rfl, Nat.zero_le _, rfl, Below.refl _ _⟩
  case round =>
    obtain ⟨i, rfl, hi, HA, HB⟩ := hrel
    by_cases hlt : i < s.size
    · have hin : (i : Int) < (s.size : Int) := by omega
      go_wp2_with fail
      go_loopw [8, 9] (fun v k wr => ∃ j : Nat, k = .int .i64 (j : Int) ∧ j ≤ signs.size ∧ v = .bool ((signs.data.toList.take j).any fun d => decide (d = s[i])) ∧ Hid (Below w.heap.size w wr)) (fun _ k _ => signs.size - (intOf k).toNat)
      case atStart => exact ⟨0, rfl, Nat.zero_le _, rfl, HB.out⟩
      case round =>
        clear HB
        obtain ⟨j, rfl, hj, rfl, HB⟩ := hrel
        by_cases hjl : j < signs.size
        · have hjn : (j : Int) < (signs.size : Int) := by omega
          have HE := hid (show (signs.data.toList.take (j + 1)).any (fun d => decide (d = s[i])) = ((signs.data.toList.take j).any (fun d => decide (d = s[i])) || decide (signs[j] = s[i])) by
            rw [take_snoc signs j hjl, List.any_append]
            simp)
          generalize (signs.data.toList.take j).any (fun d => decide (d = s[i])) = P at *
          have hq := u8_beq signs[j] s[i]
          generalize decide (signs[j] = s[i]) = D at *
          cases P
          · go_wp2_with fail
            go_quiet (fail)
            go_wp2_with fail
            go_roundw
            case rel => exact ⟨j + 1, by go_num, by omega, by rw [HE.out]; rfl, below_drewN HB.out _⟩
            case measure => simp [intOf]; omega
          · go_wp2_with fail
            go_quiet (fail)
            go_wp2_with fail
            go_roundw
            case rel => exact ⟨j + 1, by go_num, by omega, by rw [HE.out]; rfl, below_drewN HB.out _⟩
            case measure => simp [intOf]; omega
        · have hje : j = signs.size := by omega
          subst hje
          rw [take_full signs _ (by omega)]
          have HI := hid (show signs.data.toList.any (fun d => decide (d = s[i])) = inB signs s[i] from rfl)
          rw [HI.out]
          cases hP : inB signs s[i]
          · have HF := hid (show V = false by
              rw [← HV.out]
              unfold ofB
              rw [Bool.and_eq_false_imp]
              intro h
              have h2 := List.all_eq_true.1 h s[i] (List.getElem_mem _)
              have h3 : inB signs s[i] = true := h2
              rw [hP] at h3
              cases h3)
            clear hP
            go_wp2_with fail
            go_ret
            exact ⟨by rw [HF.out]; rfl, HB.out⟩
          · have HA2 := hid (show (s.data.toList.take (i + 1)).all (inB signs) = true by rw [take_snoc s i hlt, List.all_append, HA.out]; simp [hP])
            clear hP
            go_wp2_with fail
            go_roundw
            case rel => exact ⟨i + 1, by go_num, by omega, HA2.out, HB.out⟩
            case measure => simp [intOf]; omega
    · have hie : i = s.size := by omega
      subst hie
      have hA := HA.out
      rw [take_full s _ (by omega)] at hA
      have HF := hid (show V = decide (s.size ≤ most) by
        rw [← HV.out]
        unfold ofB
        have h : (s.data.toList.all fun c => signs.data.toList.any fun d => decide (d = c)) = true := hA
        rw [h, Bool.true_and])
      clear hA HA
      go_wp2_with fail
      go_ret
      exact ⟨by rw [HF.out]; rfl, HB.out⟩

theorem ns_beq (s : ByteArray) : (s.toList == [110, 115]) = decide (s = nsS) := by
  rw [← str_beq]
  have e : nsS.toList = [110, 115] := by rw [ByteArray.toList_eq]; rfl
  rw [e]

theorem cPartsX (s : ByteArray) (w : World) (h0 : s.size ≤ 1048576) :
    Calls Try.prog 28 #[.string s] w fun e w' => e = .returned (.tuple #[.string (preS s), .string (locS s)]) ∧ Below w.heap.size w w' := c_spec_Parts s w h0

set_option maxHeartbeats 2000000 in
theorem c_spec_l9Declares (x : At) (w : World) (hz : x.name.size ≤ 1048576) :
    Calls Try.prog 37 #[.agg #[.string x.name, .string x.value]] w fun e w' => e = .returned (.tuple #[.string ((declF x).getD ⟨#[]⟩), .bool (declF x).isSome]) ∧ Below w.heap.size w w' := by
  have HB := hid ((Below.refl w.heap.size w).alloc (Nat.le_refl _) (.cells #[.string x.name, .string x.value] 38))
  by_cases h1 : x.name = nsS
  · have HE := hid (show declF x = some ⟨#[]⟩ by unfold declF; rw [if_pos h1])
    rw [HE.out]
    have hd : (x.name.toList == [110, 115]) = true := by rw [ns_beq]; exact decide_eq_true h1
    clear h1
    generalize x.name = n at *
    generalize x.value = v at *
    go_enter Try.func37, Try.ntmps37
    go_wp2_with fail
    go_ret2
    exact ⟨rfl, HB.out⟩
  · have hd : (x.name.toList == [110, 115]) = false := by rw [ns_beq]; exact decide_eq_false h1
    have C := hid (fun wx => cPartsX x.name wx hz)
    by_cases h2 : preS x.name = nsS
    · have HE := hid (show declF x = some (locS x.name) by unfold declF; rw [if_neg h1, if_pos h2])
      rw [HE.out]
      have hd2 : ((preS x.name).toList == [110, 115]) = true := by rw [ns_beq]; exact decide_eq_true h2
      clear h1 h2 HE
      generalize preS x.name = P at *
      generalize locS x.name = L at *
      generalize x.name = n at *
      generalize x.value = v at *
      go_enter Try.func37, Try.ntmps37
      go_wp2_with fail
      refine (C.out _).mono ?_
      rintro e w1 ⟨rfl, hb1⟩
      have HB1 := hid (bb HB.out hb1)
      clear hb1 C
      go_wp2_with fail
      go_ret2
      exact ⟨rfl, HB1.out⟩
    · have HE := hid (show declF x = none by unfold declF; rw [if_neg h1, if_neg h2])
      rw [HE.out]
      have hd2 : ((preS x.name).toList == [110, 115]) = false := by rw [ns_beq]; exact decide_eq_false h2
      clear h1 h2 HE
      generalize preS x.name = P at *
      generalize locS x.name = L at *
      generalize x.name = n at *
      generalize x.value = v at *
      go_enter Try.func37, Try.ntmps37
      go_wp2_with fail
      refine (C.out _).mono ?_
      rintro e w1 ⟨rfl, hb1⟩
      have HB1 := hid (bb HB.out hb1)
      clear hb1 C
      go_wp2_with fail
      go_ret2
      exact ⟨rfl, HB1.out⟩

theorem box_two (w : World) (x y : Value) (T : TypeId) : (w.alloc (.cells #[x, y] T)).cell? ⟨w.heap.size, 0, none⟩ = some x ∧ (w.alloc (.cells #[x, y] T)).cell? ⟨w.heap.size, 1, none⟩ = some y ∧ w.heap.size < (w.alloc (.cells #[x, y] T)).heap.size := by
  refine ⟨?_, ?_, by simp⟩
  · rw [Lib.cell_of_heap (heap_alloc_new w _)]; rfl
  · rw [Lib.cell_of_heap (heap_alloc_new w _)]; rfl

set_option maxHeartbeats 2000000 in
theorem c_spec_l9Right (x : At) (w : World) (hz : x.name.size ≤ 1048576) (hv : x.value.size ≤ 1048576) :
    Calls Try.prog 53 #[.agg #[.string x.name, .string x.value]] w fun e w' => e = .returned (.bool (rightB x)) ∧ Below w.heap.size w w' := by
  have HB := hid ((Below.refl w.heap.size w).alloc (Nat.le_refl _) (.cells #[.string x.name, .string x.value] 38))
  have HX := hid (box_two w (.string x.name) (.string x.value) 38)
  have C := hid (fun wx => c_spec_l9Declares x wx hz)
  have CO := hid (fun wx => c_spec_l1Of sgnS 20 x.value wx hv (by decide) (by omega))
  have EV := empty_is x.value
  cases hd : declF x with
  | none =>
    have HE := hid (show rightB x = true by unfold rightB; rw [hd])
    rw [HE.out]
    rw [hd] at C
    clear hd HE CO EV
    generalize x.name = n at *
    generalize x.value = v at *
    go_enter Try.func53, Try.ntmps53
    go_wp2_with fail
    refine (C.out _).mono ?_
    rintro e w1 ⟨rfl, hb1⟩
    have HB1 := hid (bb HB.out hb1)
    clear hb1 C
    go_wp2_with fail
    go_ret
    exact ⟨rfl, HB1.out⟩
  | some p =>
    have HE := hid (show rightB x = (ofB sgnS 20 x.value && (decide (p.size = 0) || !decide (x.value.size = 0))) by unfold rightB; rw [hd])
    rw [HE.out]
    rw [hd] at C
    have EP := empty_is p
    clear hd HE
    generalize ofB sgnS 20 x.value = B at *
    generalize decide (p.size = 0) = D at *
    generalize decide (x.value.size = 0) = F at *
    generalize x.name = n at *
    generalize x.value = v at *
    unfold sgnS at CO
    go_enter Try.func53, Try.ntmps53
    go_wp2_with fail
    refine (C.out _).mono ?_
    rintro e w1 ⟨rfl, hb1⟩
    have HB1 := hid (bb HB.out hb1)
    have d2 := hid ((hb1.cell (p := ⟨w.heap.size, 1, none⟩) HX.out.2.2).trans HX.out.2.1)
    have d3 := hid (Nat.lt_of_lt_of_le HX.out.2.2 hb1.size)
    have d2' := d2.out
    clear hb1 C HB HX
    go_wp2_with fail
    refine (CO.out _).mono ?_
    rintro e w2 ⟨rfl, hb2⟩
    have HB2 := hid (bb HB1.out hb2)
    have e2 := (hb2.cell (p := ⟨w.heap.size, 1, none⟩) d3.out).trans d2.out
    clear hb2 CO HB1 d2' d2 d3
    cases B
    · go_wp2_with fail
      go_ret
      exact ⟨rfl, HB2.out⟩
    · cases D
      · go_wp2_with fail
        go_ret
        exact ⟨by cases F <;> rfl, HB2.out⟩
      · go_wp2_with fail
        go_ret
        exact ⟨rfl, HB2.out⟩

end Go.Proofs.Ytlghhemmmjahnaa
