/- Contracts of the specification's l12All, AllKnown. Contracts of IdsOk, FindId, IdOf, AllKnown of the program. Claims in the program: contracts of the signs of a word, of allSigns over them, of wordOk, factValueOk, factsOk, ClaimOk. -/
import Derived.Test.YtknpgdglabibiaaGreatDoorM11
import Derived.Test.YtknpgdglabibiaaGreatDoorM26
import Derived.Test.YtknpgdglabibiaaGreatDoorM36
import Derived.Test.YtknpgdglabibiaaGreatDoorM16
import Derived.Test.YtknpgdglabibiaaGreatDoorM22
namespace Go.Proofs.YtknpgdglabibiaaGreatDoor
open Go.RowKit
set_option linter.unusedVariables false
set_option linter.unusedSimpArgs false

end Go.Proofs.YtknpgdglabibiaaGreatDoor

namespace Go.Proofs.YtknpgdglabibiaaGreatDoor
open Go.RowKit
set_option linter.unusedVariables false
set_option linter.unusedSimpArgs false

theorem first_of {P : Nat → Prop} : ∀ k, (∀ j, j < k → ¬ P j) ∨ ∃ j, j < k ∧ P j ∧ ∀ i, i < j → ¬ P i
  | 0 => .inl fun j h => absurd h (Nat.not_lt_zero _)
  | k + 1 => by
    rcases first_of (P := P) k with h | ⟨j, hj, h1, h2⟩
    · by_cases q : P k
      · exact .inr ⟨k, Nat.lt_succ_self _, q, h⟩
      · refine .inl fun j hj => ?_
        rcases Nat.lt_or_eq_of_le (Nat.le_of_lt_succ hj) with h' | rfl
        · exact h j h'
        · exact q
    · exact .inr ⟨j, by omega, h1, h2⟩

/-- Who is found by an identifier that a node bears: that node, or one ahead of it that bears it too. -/
theorem find_first {ts : List Tk} {k n : Nat} {v : ByteArray} (hk : k < n) (h : idAt ts k = some v) : (findN ts v n = (k : Int) ∧ ¬ v ∈ idsTo ts k) ∨ (¬ findN ts v n = (k : Int) ∧ v ∈ idsTo ts k) := by
  rcases first_of (P := fun j => idAt ts j = some v) k with q | ⟨j, hj, h1, h2⟩
  · refine .inl ⟨findN_at hk q h, fun hm => ?_⟩
    obtain ⟨j, hj, e⟩ := mem_idsTo.1 hm
    exact q j hj e
  · refine .inr ⟨?_, mem_idsTo.2 ⟨j, hj, h1⟩⟩
    rw [findN_at (by omega) h2 h1]
    omega

set_option maxRecDepth 8000 in
set_option maxHeartbeats 8000000 in
theorem cIdsOkI (a : Option Addr) (cap : Nat) (ts : List Tk) (w : World) (hR : TkRow w a ts) (hn : ts.length ≤ 1048576) (hz : TksSz 1048576 ts) :
    Calls Tryz.prog 19 #[.slice a ts.length cap] w fun e w' => e = .returned (.bool (idsB ts)) ∧ Below w.heap.size w w' := by
  have CT := hid (cTreeOkI a cap ts w hR hn hz)
  cases ht : treeB ts with
  | false =>
    have HE := hid (show idsB ts = false by unfold idsB; rw [ht, Bool.and_false])
    rw [HE.out]
    rw [ht] at CT
    clear ht HE hR hz
    generalize ts.length = n at *
    go_enter Tryz.func19, Tryz.ntmps19
    go_wp2_with fail
    refine CT.out.mono ?_
    rintro e w1 ⟨rfl, hb1⟩
    have HB1 := hid hb1
    clear hb1 CT
    go_wp2_with fail
    go_ret
    exact ⟨rfl, HB1.out⟩
  | true =>
    have hT := treeB_p ht
    obtain ⟨V, hV⟩ : ∃ V, idsB ts = V := ⟨_, rfl⟩
    have HF : Hid (¬ IdsP ts ts.length → V = false) := fun h => by rw [← hV]; exact idsB_f h
    have HT : Hid (IdsP ts ts.length → V = true) := fun h => by rw [← hV, idsB_is h]; exact ht
    have CI := hid (fun (v : ByteArray) wx (hb : Below w.heap.size w wx) => cIdAtI a cap ts v wx (hR.below hb) hT hn hz)
    have CZ := hid (fun (k : Nat) (v : ByteArray) (hk : k < ts.length) (h : idAt ts k = some v) => idAt_sz hz hk h)
    have HR := hid hR
    have HZ := hid hz
    rw [hV]
    rw [ht] at CT
    clear hV hR hz ht hT
    obtain ⟨n, hnn⟩ : ∃ n, ts.length = n := ⟨_, rfl⟩
    have HN := hid hnn
    rw [hnn] at hn CT CI HF HT CZ ⊢
    clear hnn
    go_enter Tryz.func19, Tryz.ntmps19
    go_wp2_with fail
    refine CT.out.mono ?_
    rintro e w1 ⟨rfl, hb1⟩
    have HB1 := hid hb1
    clear hb1 CT
    go_wp2_with fail
    go_loopw [12] (fun v wr => ∃ k : Nat, v = .int .i64 (k : Int) ∧ k ≤ n ∧ Hid (IdsP ts k) ∧ Hid (Below w.heap.size w wr)) (fun v _ => n - (intOf v).toNat)
    case atStart => exact ⟨0, rfl, Nat.zero_le _, idsP_zero ts, HB1.out⟩
    case round =>
      clear HB1
      obtain ⟨k, rfl, hk, HP, HB⟩ := hrel
      by_cases hlt : k < n
      · have hkn : (k : Int) < (n : Int) := by omega
        have hks : k < ts.length := by rw [HN.out]; exact hlt
        obtain ⟨b, o, aa, ca, rfl, hb, q0, q1, q2, q3, hA⟩ := HR.out.below HB.out k hks
        have h3 := HZ.out _ (List.getElem_mem hks)
        have CV := hid (fun wx (hx : Below wr.heap.size wr wx) => cValueInI aa ca ts[k].attrs idS wx (hA.below hx) h3.2.2.1 h3.2.1 (by decide))
        rw [← idAt_at hks] at CV
        have HB2 := hid (HB.out.alloc HB.out.size (.cells #[.int .i64 ts[k].kind, .string ts[k].name, .slice aa ts[k].attrs.length ca, .string ts[k].text] 42))
        have CV2 := hid (CV.out _ ((Below.refl wr.heap.size wr).alloc (Nat.le_refl _) (.cells #[.int .i64 ts[k].kind, .string ts[k].name, .slice aa ts[k].attrs.length ca, .string ts[k].text] 42)))
        clear hA h3 CV hb
        generalize ts[k].kind = K at *
        generalize ts[k].name = NM at *
        generalize ts[k].text = TX at *
        generalize ts[k].attrs.length = na at *
        clear hks
        go_wp2_with fail
        refine CV2.out.mono ?_
        rintro e w2 ⟨rfl, hb2⟩
        have HB3 := hid (bb HB2.out hb2)
        clear hb2 CV2 HB2 q0 q1 q2 q3
        cases hv : idAt ts k with
        | none =>
          have HP2 := hid (idsP_none hv HP.out)
          clear hv
          go_wp2_with fail
          go_roundw
          case rel => exact ⟨k + 1, by go_num, by omega, HP2.out, HB3.out⟩
          case measure => simp [intOf]; omega
        | some v =>
          have HVI := hid hv
          have CO := hid (fun wx => cIdOk v wx (CZ.out k v hlt hv))
          have CA := hid (fun wx (h : Below w.heap.size w wx) => CI.out v wx h)
          have HFF := hid (find_first hlt hv)
          clear hv
          generalize findN ts v n = F at *
          cases hok : idOk v with
          | false =>
            have HW := hid (HF.out (idsP_bad HVI.out hlt (.inl hok)))
            rw [hok] at CO
            clear hok
            go_wp2_with fail
            refine (CO.out _).mono ?_
            rintro e w3 ⟨rfl, rfl⟩
            go_wp2_with fail
            go_ret
            exact ⟨by rw [HW.out]; rfl, HB3.out⟩
          | true =>
            have HOK := hid hok
            rw [hok] at CO
            clear hok
            rcases HFF.out with ⟨h1, h2⟩ | ⟨h1, h2⟩
            · have HP2 := hid (idsP_some HVI.out HP.out HOK.out h2)
              subst h1
              have e1 : ((k : Int) == (k : Int)) = true := by simp
              clear h2
              go_wp2_with fail
              refine (CO.out _).mono ?_
              rintro e w3 ⟨rfl, rfl⟩
              go_wp2_with fail
              refine (CA.out _ HB3.out).mono ?_
              rintro e w4 ⟨rfl, hb4⟩
              have HB4 := hid (bb HB3.out hb4)
              clear hb4
              go_wp2_with fail
              go_roundw
              case rel => exact ⟨k + 1, by go_num, by omega, HP2.out, HB4.out⟩
              case measure => simp [intOf]; omega
            · have HW := hid (HF.out (idsP_bad HVI.out hlt (.inr h2)))
              have e1 : (F == (k : Int)) = false := by simp; exact h1
              have e2 : (F != (k : Int)) = true := by simp; exact h1
              clear h2 h1
              go_wp2_with fail
              refine (CO.out _).mono ?_
              rintro e w3 ⟨rfl, rfl⟩
              go_wp2_with fail
              refine (CA.out _ HB3.out).mono ?_
              rintro e w4 ⟨rfl, hb4⟩
              have HB4 := hid (bb HB3.out hb4)
              clear hb4
              go_wp2_with fail
              go_ret
              exact ⟨by rw [HW.out]; rfl, HB4.out⟩
      · have hke : k = n := by omega
        subst hke
        have HW := hid (HT.out HP.out)
        go_wp2_with fail
        go_ret
        exact ⟨by rw [HW.out]; rfl, HB.out⟩

set_option maxHeartbeats 4000000 in
theorem cIdOfI (a : Option Addr) (cap : Nat) (ts : List Tk) (x : Int) (w : World) (hR : TkRow w a ts) (hn : ts.length ≤ 1048576) (hz : TksSz 1048576 ts) :
    Calls Tryz.prog 21 #[.slice a ts.length cap, .int .i64 x] w fun e w' => e = .returned (.string (idI ts x)) ∧ Below w.heap.size w w' := by
  have CH := hid (cThere a cap ts x w hR hn hz)
  have C := hid (fun wx (hb : Below w.heap.size w wx) => cIdsOkI a cap ts wx (hR.below hb) hn hz)
  cases hh : hasB ts x with
  | false =>
    have HE := hid (show idI ts x = ByteArray.empty by
      unfold idI
      refine if_neg (fun h => ?_)
      unfold hasB at hh
      rw [(idsB_t h.1).2, decide_eq_true h.2] at hh
      cases hh)
    rw [HE.out]
    rw [hh] at CH
    clear hh HE hR hz C
    generalize ts.length = n at *
    go_enter Tryz.func21, Tryz.ntmps21
    go_wp2_with fail
    refine CH.out.mono ?_
    rintro e w1 ⟨rfl, hb1⟩
    have HB1 := hid hb1
    clear hb1 CH
    go_wp2_with fail
    go_ret
    exact ⟨rfl, HB1.out⟩
  | true =>
    rw [hh] at CH
    obtain ⟨hT, k, rfl, hk⟩ := hasB_t hh
    cases hi : idsB ts with
    | false =>
      have HE := hid (show idI ts (k : Int) = ByteArray.empty by
        unfold idI
        refine if_neg (fun h => ?_)
        rw [hi] at h
        cases h.1)
      rw [HE.out]
      rw [hi] at C
      clear hh HE hR hz hi hT
      generalize ts.length = n at *
      go_enter Tryz.func21, Tryz.ntmps21
      go_wp2_with fail
      refine CH.out.mono ?_
      rintro e w1 ⟨rfl, hb1⟩
      have HB1 := hid hb1
      clear hb1 CH
      go_wp2_with fail
      refine (C.out _ HB1.out).mono ?_
      rintro e w2 ⟨rfl, hb2⟩
      have HB2 := hid (bb HB1.out hb2)
      clear hb2 C
      go_wp2_with fail
      go_ret
      exact ⟨rfl, HB2.out⟩
    | true =>
      have HE := hid (show idI ts (k : Int) = (idAt ts k).getD ByteArray.empty by
        unfold idI
        rw [if_pos ⟨hi, by omega, by omega⟩]
        rfl)
      rw [HE.out]
      rw [hi] at C
      have HR := hid (fun wx (hb : Below w.heap.size w wx) => ats_row (hR.below hb) hk)
      have h3 := hz _ (List.getElem_mem hk)
      have CV := hid (fun aa ca wx (hA : AtRow wx aa ts[k].attrs) => cValueInI aa ca ts[k].attrs idS wx hA h3.2.2.1 h3.2.1 (by decide))
      rw [← idAt_at hk] at CV
      have hkn : (k : Int) < (ts.length : Int) := by omega
      clear hh HE hR hz hi hT h3
      generalize idAt ts k = I at *
      generalize ts[k].attrs = L at *
      generalize ts.length = n at *
      go_enter Tryz.func21, Tryz.ntmps21
      go_wp2_with fail
      refine CH.out.mono ?_
      rintro e w1 ⟨rfl, hb1⟩
      have HB1 := hid hb1
      clear hb1 CH
      go_wp2_with fail
      refine (C.out _ HB1.out).mono ?_
      rintro e w2 ⟨rfl, hb2⟩
      have HB2 := hid (bb HB1.out hb2)
      clear hb2 C
      obtain ⟨b, o, aa, ca, rfl, c2, hA⟩ := HR.out _ HB2.out
      have CV2 := hid (CV.out aa ca _ hA)
      clear hA CV HR
      generalize L.length = na at *
      go_wp2_with fail
      refine CV2.out.mono ?_
      rintro e w3 ⟨rfl, hb3⟩
      have HB3 := hid (bb HB2.out hb3)
      clear hb3 CV2 c2
      go_wp2_with fail
      go_ret
      exact ⟨rfl, HB3.out⟩

end Go.Proofs.YtknpgdglabibiaaGreatDoor

namespace Go.Proofs.YtknpgdglabibiaaGreatDoor
open Go.RowKit
set_option linter.unusedVariables false
set_option linter.unusedSimpArgs false

/-- A sign that may stand in a word. -/
def inWB (c : Int) : Bool := (decide (97 ≤ c) && decide (c ≤ 122)) || (decide (65 ≤ c) && decide (c ≤ 90)) || (decide (48 ≤ c) && decide (c ≤ 57)) || decide (c = 46) || decide (c = 64)

theorem inWB_all : ∀ n : Fin 256, inB wordLS (UInt8.ofNat n.val) = inWB (n.val : Int) := by decide +kernel

theorem inWB_is (c : UInt8) : inB wordLS c = inWB c.toNat := by
  have h := inWB_all ⟨c.toNat, c.toNat_lt⟩
  have e : UInt8.ofNat c.toNat = c := by simp
  rw [e] at h
  exact h

set_option maxHeartbeats 1000000 in
theorem cInWord (c : Int) (w : World) (h0 : 0 ≤ c) (h1 : c ≤ 255) :
    Calls Tryz.prog 110 #[.int .u8 c] w fun e w' => e = .returned (.bool (inWB c)) ∧ w' = w := by
  go_enter Tryz.func110, Tryz.ntmps110
  go_wp2_with (first | (go_at_call 136; refine (c__impl_sign__letter _ _ h0 h1).mono ?_; rintro e w' ⟨rfl, rfl⟩) | (go_at_call 127; refine (cDigit _ _ h0 h1).mono ?_; rintro e w' ⟨rfl, rfl⟩))
  all_goals go_ret
  all_goals exact ⟨ret_bool (by rw [Bool.eq_iff_iff]; simp_all [inWB, letB]; try omega), rfl⟩

/-- All signs may stand in a word. -/
def allWd (l : List UInt8) : Bool := l.all fun c => inWB c.toNat

theorem allWd_is (l : List UInt8) : (l.all fun c => wordLS.data.toList.any fun d => decide (d = c)) = allWd l := by
  unfold allWd
  congr 1
  funext c
  exact inWB_is c

theorem allWd_snoc (s : ByteArray) (k : Nat) (h : k < s.size) : allWd (s.data.toList.take (k + 1)) = (allWd (s.data.toList.take k) && inWB s[k].toNat) := by
  unfold allWd
  rw [take_snoc s k h, List.all_append]
  simp

theorem allWd_no (s : ByteArray) (k : Nat) (h : k < s.size) (hc : inWB s[k].toNat = false) : allWd s.data.toList = false := by
  cases hA : allWd s.data.toList with
  | false => rfl
  | true =>
    have := List.all_eq_true.1 hA s[k] (List.getElem_mem _)
    rw [hc] at this
    cases this

set_option maxHeartbeats 1000000 in
theorem cAllWord (s : ByteArray) (w : World) (hs : s.size ≤ 1048576) :
    Calls Tryz.prog 101 #[.string s, .func (.func 110) #[] #[]] w fun e w' => e = .returned (.bool (allWd s.data.toList)) ∧ w' = w := by
  go_enter Tryz.func101, Tryz.ntmps101
  go_wp2
  go_loop [8] (fun i => ∃ k : Nat, k ≤ s.size ∧ i = .int .i64 k ∧ Hid (allWd (s.data.toList.take k) = true)) (fun i => s.size - (intOf i).toNat)
  case atStart => exact ⟨0, Nat.zero_le _, rfl, rfl⟩
  case round =>
    obtain ⟨k, hk, rfl, HP⟩ := hrel
    by_cases hlt : k < s.size
    · have hb : (s[k].toNat : Int) ≤ 255 := by have := s[k].toNat_lt; omega
      cases hc : inWB s[k].toNat
      · go_wp2_with (go_at_call 110; refine (cInWord _ _ (by omega) hb).mono ?_; rintro e w' ⟨rfl, rfl⟩)
        go_ret
        exact ⟨ret_bool (allWd_no s k hlt hc).symm, rfl⟩
      · go_wp2_with (go_at_call 110; refine (cInWord _ _ (by omega) hb).mono ?_; rintro e w' ⟨rfl, rfl⟩)
        go_round
        case rel => exact ⟨k + 1, by omega, by go_num, by show allWd _ = true; rw [allWd_snoc s k hlt, HP.out, hc]; rfl⟩
        case measure => simp [intOf]; omega
    · go_wp2
      go_ret
      exact ⟨ret_bool (by rw [← take_full s k hlt]; exact HP.out.symm), rfl⟩

theorem wordB_is (s : ByteArray) : wordB s = (decide (1 ≤ s.size) && (decide (s.size ≤ 20) && allWd s.data.toList)) := by
  unfold wordB ofB
  rw [allWd_is, Bool.and_comm (allWd s.data.toList)]
  have e : (!decide (s.size = 0)) = decide (1 ≤ s.size) := by
    by_cases h : s.size = 0
    · rw [decide_eq_true h, decide_eq_false (show ¬ 1 ≤ s.size by omega)]; rfl
    · rw [decide_eq_false h, decide_eq_true (show 1 ≤ s.size by omega)]; rfl
  rw [e]

set_option maxHeartbeats 2000000 in
theorem cWordOk (s : ByteArray) (w : World) (hs : s.size ≤ 1048576) :
    Calls Tryz.prog 66 #[.string s] w fun e w' => e = .returned (.bool (wordB s)) ∧ w' = w := by
  have C := hid (fun wx => cAllWord s wx hs)
  rw [wordB_is]
  generalize allWd s.data.toList = M at *
  by_cases h1 : 1 ≤ s.size
  · rw [decide_eq_true h1]
    have h1' : (1 : Int) ≤ (s.size : Int) := by omega
    by_cases h12 : s.size ≤ 20
    · rw [decide_eq_true h12]
      have h12' : (s.size : Int) ≤ 20 := by omega
      go_enter Tryz.func66, Tryz.ntmps66
      go_wp2_with fail
      refine (C.out _).mono ?_
      rintro e w1 ⟨rfl, rfl⟩
      go_wp2_with fail
      go_ret
      exact ⟨by simp, rfl⟩
    · rw [decide_eq_false h12]
      have h12' : ¬ (s.size : Int) ≤ 20 := by omega
      go_enter Tryz.func66, Tryz.ntmps66
      go_wp2_with fail
      go_ret
      exact ⟨by simp, rfl⟩
  · rw [decide_eq_false h1]
    have h1' : ¬ (1 : Int) ≤ (s.size : Int) := by omega
    go_enter Tryz.func66, Tryz.ntmps66
    go_wp2_with fail
    go_ret
    exact ⟨by simp, rfl⟩

theorem cGap (c : Int) (w : World) (h0 : 0 ≤ c) (h1 : c ≤ 255) :
    Calls Tryz.prog 138 #[.int .u8 c] w fun e w' => e = .returned (.bool (gapB c)) ∧ w' = w := by
  go_enter Tryz.func138, Tryz.ntmps138
  go_wp2
  all_goals go_ret
  all_goals exact ⟨ret_boolE (by rw [Bool.eq_iff_iff]; simp [gapB]; try omega), rfl⟩

set_option maxHeartbeats 4000000 in
theorem cFactValue (s : ByteArray) (w : World) (hs : s.size ≤ 1048576) :
    Calls Tryz.prog 111 #[.string s] w fun e w' => e = .returned (.bool (fvalB s)) ∧ w' = w := by
  have C := hid (fun wx => c_impl_PlainOk s wx (by unfold maxLen; omega))
  by_cases h1 : 1 ≤ s.size
  · have g1 : decide ((s.size : Int) < 1) = false := by simp; omega
    by_cases h30 : s.size ≤ 30
    · have g2 : decide ((30 : Int) < (s.size : Int)) = false := by simp; omega
      obtain ⟨m, hm⟩ : ∃ m, s.size = m + 1 := ⟨s.size - 1, by omega⟩
      have hml : m < s.size := by omega
      have h0l : 0 < s.size := by omega
      rw [fval_is hm h30 h0l hml]
      have hms : (s.size : Int) - 1 = (m : Int) := by omega
      have r0 : ((s[0]'h0l).toNat : Int) ≤ 255 := by have := (s[0]'h0l).toNat_lt; omega
      have r1 : ((s[m]'hml).toNat : Int) ≤ 255 := by have := (s[m]'hml).toNat_lt; omega
      have CB0 := hid (fun wx => cGap ((s[0]'h0l).toNat : Int) wx (by omega) r0)
      have CB1 := hid (fun wx => cGap ((s[m]'hml).toNat : Int) wx (by omega) r1)
      generalize plainL s.data.toList = p1 at *
      obtain ⟨g3, hg3⟩ : ∃ g0, gapB ((s[0]'h0l).toNat : Int) = g0 := ⟨_, rfl⟩
      obtain ⟨g4, hg4⟩ : ∃ g1, gapB ((s[m]'hml).toNat : Int) = g1 := ⟨_, rfl⟩
      rw [hg3, hg4]
      rw [hg3] at CB0
      rw [hg4] at CB1
      clear hg3 hg4 r0 r1 hm
      go_enter Tryz.func111, Tryz.ntmps111
      go_wp2_with fail
      refine (C.out _).mono ?_
      rintro e w1 ⟨rfl, rfl⟩
      cases p1 with
      | false =>
        go_wp2_with fail
        go_ret
        exact ⟨rfl, rfl⟩
      | true =>
      go_wp2_with fail
      refine (CB0.out _).mono ?_
      rintro e w1 ⟨rfl, rfl⟩
      cases g3 with
      | true =>
        go_wp2_with fail
        go_ret
        exact ⟨rfl, rfl⟩
      | false =>
      go_wp2_with fail
      refine (CB1.out _).mono ?_
      rintro e w1 ⟨rfl, rfl⟩
      go_wp2_with fail
      go_ret
      exact ⟨by simp, rfl⟩
    · have g2 : decide ((30 : Int) < (s.size : Int)) = true := by simp; omega
      rw [fval_no (by omega)]
      go_enter Tryz.func111, Tryz.ntmps111
      go_wp2_with fail
      go_ret
      exact ⟨rfl, rfl⟩
  · have g1 : decide ((s.size : Int) < 1) = true := by simp; omega
    rw [fval_no (by omega)]
    go_enter Tryz.func111, Tryz.ntmps111
    go_wp2_with fail
    go_ret
    exact ⟨rfl, rfl⟩

/-- Where the first of that name stands, told of the facts ahead. -/
theorem idx_first {l : List At} {i : Nat} (hi : i < l.length) {r : Int} (h : IdxIs l l[i].name r) : (r = (i : Int) ∧ ∀ k, ∀ hk : k < l.length, k < i → ¬ l[k].name = l[i].name) ∨ (¬ r = (i : Int) ∧ ∃ k, ∃ hk : k < l.length, k < i ∧ l[k].name = l[i].name) := by
  rcases h with ⟨rfl, h⟩ | ⟨j, hj, rfl, h1, h2⟩
  · exact absurd rfl (h _ (List.getElem_mem hi))
  · have hji : ¬ i < j := fun h => h2 l[i] (by rw [List.mem_take_iff_getElem]; exact ⟨i, by omega, rfl⟩) rfl
    rcases Nat.lt_or_eq_of_le (Nat.le_of_not_lt hji) with h' | h'
    · exact .inr ⟨by omega, j, hj, h', h1⟩
    · subst h'
      refine .inl ⟨rfl, fun k hk hlt => h2 _ ?_⟩
      rw [List.mem_take_iff_getElem]
      exact ⟨k, by omega, rfl⟩

set_option maxRecDepth 8000 in
set_option maxHeartbeats 8000000 in
theorem cFactsOk (a : Option Addr) (cap : Nat) (L : List At) (w : World) (hR : AtRow w a L) (hn : L.length ≤ 1048576) (hz : AtSz 1048576 L) :
    Calls Tryz.prog 68 #[.slice a L.length cap] w fun e w' => e = .returned (.bool (factsB L)) ∧ Below w.heap.size w w' := by
  have HR := hid hR
  have HZ := hid hz
  obtain ⟨FB, hFB⟩ : ∃ FB, factsB L = FB := ⟨_, rfl⟩
  have HFB := hid hFB
  rw [hFB]
  clear hR hz hFB
  obtain ⟨n, hnn⟩ : ∃ n, L.length = n := ⟨_, rfl⟩
  have HN := hid hnn
  rw [hnn] at hn ⊢
  clear hnn
  by_cases h4 : n ≤ 4
  case neg =>
    have HE := hid (show FB = false by rw [← HFB.out]; exact factsB_4 (by rw [HN.out]; omega))
    have g4 : decide ((4 : Int) < (n : Int)) = true := by simp; omega
    go_enter Tryz.func68, Tryz.ntmps68
    go_wp2_with fail
    go_ret
    exact ⟨by rw [HE.out]; rfl, Below.refl _ _⟩
  have g4 : decide ((4 : Int) < (n : Int)) = false := by simp; omega
  go_enter Tryz.func68, Tryz.ntmps68
  go_wp2_with fail
  go_loopw [10] (fun v wr => ∃ i : Nat, v = .int .i64 (i : Int) ∧ i ≤ n ∧ Hid (FactsP L i) ∧ Hid (Below w.heap.size w wr)) (fun v _ => n - (intOf v).toNat)
  case atStart => exact ⟨0, rfl, Nat.zero_le _, factsP_zero L, Below.refl _ _⟩
  case round =>
    obtain ⟨i, rfl, hin, HP, HB⟩ := hrel
    by_cases hlt : i < n
    · have his : i < L.length := by rw [HN.out]; exact hlt
      have hit : (i : Int) < (n : Int) := by omega
      obtain ⟨b, o, rfl, hb, c1, c2⟩ := HR.out.below HB.out i his
      have hz1 := HZ.out _ (List.getElem_mem his)
      have CN := hid (fun wx => cWordOk L[i].name wx hz1.1)
      have CV := hid (fun wx => cFactValue L[i].value wx hz1.2)
      have CA := hid (fun wx (h : Below w.heap.size w wx) => cAttrAt (some ⟨b, o, none⟩) cap L L[i].name wx (HR.out.below h) HZ.out (by rw [HN.out]; exact hn) hz1.1)
      have HID := hid (fun r (h : IdxIs L L[i].name r) => idx_first his h)
      have HBAD : Hid (wordB L[i].name = false ∨ fvalB L[i].value = false ∨ (∃ k, ∃ hk : k < L.length, k < i ∧ L[k].name = L[i].name) → FB = false) := fun h => by
        rw [← HFB.out]
        refine factsB_f his (fun hP => ?_)
        rcases h with h | h | ⟨k, hk, hki, h⟩
        · rw [hP.1] at h; cases h
        · rw [hP.2.1] at h; cases h
        · exact hP.2.2 k hki h
      have HGO : Hid (wordB L[i].name = true → fvalB L[i].value = true → (∀ k, ∀ hk : k < L.length, k < i → ¬ L[k].name = L[i].name) → FactsP L (i + 1)) := fun h1 h2 h3 => factsP_next HP.out his ⟨h1, h2, fun k hk => h3 k _ hk⟩
      clear hz1
      generalize L[i].name = nm at *
      generalize L[i].value = vl at *
      rw [HN.out] at CA
      clear his
      have HBX := hid ((Below.refl wr.heap.size wr).alloc (Nat.le_refl _) (.cells #[.string nm, .string vl] 68))
      have bx := box_two wr (.string nm) (.string vl) 68
      obtain ⟨w0, hw0⟩ : ∃ w0, wr.alloc (.cells #[.string nm, .string vl] 68) = w0 := ⟨_, rfl⟩
      rw [hw0] at HBX bx
      obtain ⟨bx1, bx2, bx3⟩ := bx
      have HB0 := hid (bb HB.out HBX.out)
      have HBX3 := hid bx3
      clear bx3
      cases hwd : wordB nm with
      | false =>
        have HE := hid (HBAD.out (.inl hwd))
        rw [hwd] at CN
        clear hwd
        go_wp2_with fail
        refine (CN.out _).mono ?_
        rintro e w1 ⟨rfl, rfl⟩
        go_wp2_with fail
        go_ret
        exact ⟨by rw [HE.out]; rfl, HB0.out⟩
      | true =>
      have HWD := hid hwd
      rw [hwd] at CN
      clear hwd
      cases hvd : fvalB vl with
      | false =>
        have HE := hid (HBAD.out (.inr (.inl hvd)))
        rw [hvd] at CV
        clear hvd
        go_wp2_with fail
        refine (CN.out _).mono ?_
        rintro e w1 ⟨rfl, rfl⟩
        go_wp2_with fail
        refine (CV.out _).mono ?_
        rintro e w1 ⟨rfl, rfl⟩
        go_wp2_with fail
        go_ret
        exact ⟨by rw [HE.out]; rfl, HB0.out⟩
      | true =>
      have HVD := hid hvd
      rw [hvd] at CV
      clear hvd
      go_wp2_with fail
      refine (CN.out _).mono ?_
      rintro e w1 ⟨rfl, rfl⟩
      go_wp2_with fail
      refine (CV.out _).mono ?_
      rintro e w1 ⟨rfl, rfl⟩
      go_wp2_with fail
      refine (CA.out _ HB0.out).mono ?_
      rintro e w2 ⟨r, rfl, hr, hb2⟩
      have HB2 := hid (bb HB0.out hb2)
      have HR2 := hid (HID.out r hr)
      clear hb2 hr hw0 bx1 bx2 c1 c2
      rcases HR2.out with ⟨rfl, h⟩ | ⟨h0, h⟩
      · have HF1 := hid (HGO.out HWD.out HVD.out h)
        have e1 : ((i : Int) == (i : Int)) = true := by simp
        clear h
        go_wp2_with fail
        go_roundw
        case rel => exact ⟨i + 1, by go_num, by omega, HF1.out, HB2.out⟩
        case measure => simp [intOf]; omega
      · have HE := hid (HBAD.out (.inr (.inr h)))
        have e1 : (r == (i : Int)) = false := by simp; exact h0
        have e2 : (r != (i : Int)) = true := by simp; exact h0
        clear h h0
        go_wp2_with fail
        go_ret
        exact ⟨by rw [HE.out]; rfl, HB2.out⟩
    · have hie : i = n := by omega
      subst hie
      have HE := hid (show FB = true from by rw [← HFB.out]; exact factsB_t (by rw [HN.out]; exact h4) (by rw [HN.out]; exact HP.out))
      go_wp2_with fail
      go_ret
      exact ⟨by rw [HE.out]; rfl, HB.out⟩

end Go.Proofs.YtknpgdglabibiaaGreatDoor
