/- Contract of idAt of the program: a loop that a label leaves. Contracts of the specification's l12All, AllKnown. Contracts of IdsOk, FindId, IdOf, AllKnown of the program. What is written of a tree in the one way is short: a tree's names, values and texts are (the bounds of CCanM, with less). -/
import Derived.Test.YtnbpcgeojmikoaaGreatDoorM24
import Derived.Test.YtnbpcgeojmikoaaGreatDoorM12
import Derived.Test.YtnbpcgeojmikoaaGreatDoorM11
import Derived.Test.YtnbpcgeojmikoaaGreatDoorM16
import Derived.Deep.LoopGhost
namespace Go.Proofs.YtnbpcgeojmikoaaGreatDoor
open Go.RowKit
set_option linter.unusedVariables false
set_option linter.unusedSimpArgs false

theorem id_beq (s : ByteArray) : (s.toList == [73, 100]) = decide (s = idS) := by
  rw [← str_beq]
  have e : idS.toList = [73, 100] := by rw [ByteArray.toList_eq]; rfl
  rw [e]

set_option maxRecDepth 8000 in
set_option maxHeartbeats 8000000 in
theorem cIdAtI (a : Option Addr) (cap : Nat) (ts : List Tk) (id : ByteArray) (w : World) (hR : TkRow w a ts) (hT : TreeP ts) (hn : ts.length ≤ 1048576) (hz : TksSz 1048576 ts) :
    Calls Tryz.prog 81 #[.slice a ts.length cap, .string id] w fun e w' => e = .returned (.int .i64 (findN ts id ts.length)) ∧ Below w.heap.size w w' := by
  have HR := hid hR
  have HZ := hid hz
  have HT := hid hT
  obtain ⟨V, hV⟩ : ∃ V, findN ts id ts.length = V := ⟨_, rfl⟩
  have HV := hid hV
  rw [hV]
  clear hR hz hT hV
  obtain ⟨n, hnn⟩ : ∃ n, ts.length = n := ⟨_, rfl⟩
  have HN := hid hnn
  rw [hnn] at hn HV ⊢
  clear hnn
  go_enter Tryz.func81, Tryz.ntmps81
  go_wp2_with fail
  go_step3
  go_wp2_with fail
  go_step3
  go_wp2_with fail
  go_loopg [5, 12] n (fun g s5 s12 wx => ∃ k : Nat, k + g = n ∧ s12 = .int .i64 (k : Int) ∧ s5 = .int .i64 (-1) ∧ Hid (∀ j, j < k → ¬ idAt ts j = some id) ∧ Hid (Below w.heap.size w wx))
  case atStart => exact ⟨0, by omega, rfl, rfl, fun j h => absurd h (Nat.not_lt_zero _), Below.refl _ _⟩
  case round =>
    obtain ⟨k, hkg, rfl, rfl, HA, HB⟩ := hrel
    cases gk with
    | zero =>
      have hke : k = n := by omega
      subst hke
      have HW := hid (show V = -1 by rw [← HV.out]; exact findN_none HA.out)
      go_wp2_with fail
      try rw [Exit.noGoto_ret]
      go_ret
      exact ⟨by rw [HW.out]; rfl, HB.out⟩
    | succ g =>
      have hlt : k < n := by omega
      have hkn : (k : Int) < (n : Int) := by omega
      have hks : k < ts.length := by rw [HN.out]; exact hlt
      obtain ⟨b, o, aa, ca, rfl, hb, q0, q1, q2, q3, hA⟩ := HR.out.below HB.out k hks
      have HAT := hid hA
      have HFW := hid (fun (i : Nat) (hi : i < ts[k].attrs.length) (h1 : ts[k].attrs[i].name = idS) (h2 : ts[k].attrs[i].value = id) => show V = (k : Int) from by
        rw [← HV.out]
        exact findN_at hlt HA.out (by rw [tree_id HT.out hks hi h1, h2]))
      have HBK := hid (fun (h : idAt ts k = some id) => id_tree hks h)
      have HB2 := hid (HB.out.alloc HB.out.size (.cells #[.int .i64 ts[k].kind, .string ts[k].name, .slice aa ts[k].attrs.length ca, .string ts[k].text] 32))
      have HAT2 := hid (HAT.out.below ((Below.refl wr.heap.size wr).alloc (Nat.le_refl _) (.cells #[.int .i64 ts[k].kind, .string ts[k].name, .slice aa ts[k].attrs.length ca, .string ts[k].text] 32)))
      have hla : ts[k].attrs.length ≤ 1048576 := (HZ.out _ (List.getElem_mem hks)).2.1
      generalize ts[k].kind = K at *
      generalize ts[k].name = NM at *
      generalize ts[k].text = TX at *
      generalize ts[k].attrs = L at *
      obtain ⟨na, hna⟩ : ∃ na, L.length = na := ⟨_, rfl⟩
      have HNA := hid hna
      rw [hna] at q2 hla HB2 HAT2
      clear hA hna hks HAT
      obtain ⟨wo, hwo⟩ : ∃ wo, wr.alloc (.cells #[.int .i64 K, .string NM, .slice aa na ca, .string TX] 32) = wo := ⟨_, rfl⟩
      have b2 := (box_four wr (.int .i64 K) (.string NM) (.slice aa na ca) (.string TX) 32).2.2.1
      rw [hwo] at HB2 HAT2 b2
      go_wp2_with fail
      go_loopg [5, 20] na (fun g2 s5 s20 wy => ∃ i : Nat, i + g2 = na ∧ s20 = .int .i64 (i : Int) ∧ s5 = .int .i64 (-1) ∧ Hid (∀ (j : Nat) (hj : j < L.length), j < i → ¬ (L[j].name = idS ∧ L[j].value = id)) ∧ Hid (Below wo.heap.size wo wy))
      case atStart => exact ⟨0, by omega, rfl, rfl, fun j _ h => absurd h (Nat.not_lt_zero _), by rw [← hwo]; exact Below.refl _ _⟩
      case round =>
        obtain ⟨i, hig, rfl, rfl, HO, HBi⟩ := hrel
        have HBw := hid (bb HB2.out HBi.out)
        cases gk with
        | zero =>
          have hie : i = na := by omega
          subst hie
          have HA2 := hid (show ∀ j, j < k + 1 → ¬ idAt ts j = some id from fun j h he => by
            rcases Nat.lt_or_eq_of_le (Nat.le_of_lt_succ h) with h' | rfl
            · exact HA.out j h' he
            · obtain ⟨i, hi, e1, e2⟩ := HBK.out he
              exact HO.out i hi (by rw [← HNA.out]; exact hi) ⟨e1, e2⟩)
          go_wp2_with fail
          go_roundg g
          case measure => omega
          case rel => exact ⟨k + 1, by omega, by go_num, rfl, HA2.out, HBw.out⟩
        | succ g2 =>
          have hil : i < na := by omega
          have hin : (i : Int) < (na : Int) := by omega
          have his : i < L.length := by rw [HNA.out]; exact hil
          obtain ⟨b1, o1, rfl, hb1, c1, c2⟩ := HAT2.out.below HBi.out i his
          have e1 := id_beq L[i].name
          have e2 := str_beq L[i].value id
          have HBx := hid (HBw.out.alloc HBw.out.size (.cells #[.string L[i].name, .string L[i].value] 70))
          have HBy := hid (HBi.out.alloc HBi.out.size (.cells #[.string L[i].name, .string L[i].value] 70))
          by_cases hq : L[i].name = idS ∧ L[i].value = id
          · have HW := hid (HFW.out i his hq.1 hq.2)
            rw [decide_eq_true hq.1] at e1
            rw [decide_eq_true hq.2] at e2
            clear hq
            generalize L[i].name = x at *
            generalize L[i].value = y at *
            go_wp2_with fail
            try rw [Exit.noGoto_ret]
            go_ret
            exact ⟨by rw [HW.out]; rfl, HBx.out⟩
          · have HO2 := hid (show ∀ (j : Nat) (hj : j < L.length), j < i + 1 → ¬ (L[j].name = idS ∧ L[j].value = id) from fun j hj h => by
              rcases Nat.lt_or_eq_of_le (Nat.le_of_lt_succ h) with h' | rfl
              · exact HO.out j hj h'
              · exact hq)
            obtain ⟨B1, hB1⟩ : ∃ B, decide (L[i].name = idS) = B := ⟨_, rfl⟩
            obtain ⟨B2, hB2⟩ : ∃ B, decide (L[i].value = id) = B := ⟨_, rfl⟩
            have HQ := hid (show ¬ (B1 = true ∧ B2 = true) from fun h => hq ⟨of_decide_eq_true (hB1.trans h.1), of_decide_eq_true (hB2.trans h.2)⟩)
            rw [hB1] at e1
            rw [hB2] at e2
            clear hq hB1 hB2
            generalize L[i].name = x at *
            generalize L[i].value = y at *
            cases B1 with
            | false =>
              go_wp2_with fail
              go_roundg g2
              case measure => omega
              case rel => exact ⟨i + 1, by omega, by go_num, rfl, HO2.out, HBy.out⟩
            | true =>
              cases B2 with
              | true => exact absurd ⟨rfl, rfl⟩ HQ.out
              | false =>
                go_wp2_with fail
                go_roundg g2
                case measure => omega
                case rel => exact ⟨i + 1, by omega, by go_num, rfl, HO2.out, HBy.out⟩

end Go.Proofs.YtnbpcgeojmikoaaGreatDoor

namespace Go.Proofs.YtnbpcgeojmikoaaGreatDoor
open Go.RowKit
set_option linter.unusedVariables false
set_option linter.unusedSimpArgs false

end Go.Proofs.YtnbpcgeojmikoaaGreatDoor

namespace Go.Proofs.YtnbpcgeojmikoaaGreatDoor
open Go.RowKit
set_option linter.unusedVariables false
set_option linter.unusedSimpArgs false

theorem first_of {P : Nat → Prop} : ∀ k, (∀ j, j < k → ¬ P j) ∨ ∃ j, j < k ∧ P j ∧ ∀ i, i < j → ¬ P i
  | 0 => .inl fun j h => absurd h (Nat.not_lt_zero _)
  | k + 1 => by
    rcases first_of (P := P) k with h | ⟨j, hj, h1, h2⟩
    · by_cases q : P k
      · exact .inr ⟨k, Nat.lt_succ_self _, q, h⟩
      · refine .inl fun j hj => ?_
        rcases Nat.lt_or_eq_of_le (Nat.le_of_lt_succ hj) with h' | rfl
        · exact h j h'
        · exact q
    · exact .inr ⟨j, by omega, h1, h2⟩

/-- Who is found by an identifier that a node bears: that node, or one ahead of it that bears it too. -/
theorem find_first {ts : List Tk} {k n : Nat} {v : ByteArray} (hk : k < n) (h : idAt ts k = some v) : (findN ts v n = (k : Int) ∧ ¬ v ∈ idsTo ts k) ∨ (¬ findN ts v n = (k : Int) ∧ v ∈ idsTo ts k) := by
  rcases first_of (P := fun j => idAt ts j = some v) k with q | ⟨j, hj, h1, h2⟩
  · refine .inl ⟨findN_at hk q h, fun hm => ?_⟩
    obtain ⟨j, hj, e⟩ := mem_idsTo.1 hm
    exact q j hj e
  · refine .inr ⟨?_, mem_idsTo.2 ⟨j, hj, h1⟩⟩
    rw [findN_at (by omega) h2 h1]
    omega

set_option maxRecDepth 8000 in
set_option maxHeartbeats 8000000 in
theorem cIdsOkI (a : Option Addr) (cap : Nat) (ts : List Tk) (w : World) (hR : TkRow w a ts) (hn : ts.length ≤ 1048576) (hz : TksSz 1048576 ts) :
    Calls Tryz.prog 29 #[.slice a ts.length cap] w fun e w' => e = .returned (.bool (idsB ts)) ∧ Below w.heap.size w w' := by
  have CT := hid (cTreeOkI a cap ts w hR hn hz)
  cases ht : treeB ts with
  | false =>
    have HE := hid (show idsB ts = false by unfold idsB; rw [ht, Bool.and_false])
    rw [HE.out]
    rw [ht] at CT
    clear ht HE hR hz
    generalize ts.length = n at *
    go_enter Tryz.func29, Tryz.ntmps29
    go_wp2_with fail
    refine CT.out.mono ?_
    rintro e w1 ⟨rfl, hb1⟩
    have HB1 := hid hb1
    clear hb1 CT
    go_wp2_with fail
    go_ret
    exact ⟨rfl, HB1.out⟩
  | true =>
    have hT := treeB_p ht
    obtain ⟨V, hV⟩ : ∃ V, idsB ts = V := ⟨_, rfl⟩
    have HF : Hid (¬ IdsP ts ts.length → V = false) := fun h => by rw [← hV]; exact idsB_f h
    have HT : Hid (IdsP ts ts.length → V = true) := fun h => by rw [← hV, idsB_is h]; exact ht
    have CI := hid (fun (v : ByteArray) wx (hb : Below w.heap.size w wx) => cIdAtI a cap ts v wx (hR.below hb) hT hn hz)
    have CZ := hid (fun (k : Nat) (v : ByteArray) (hk : k < ts.length) (h : idAt ts k = some v) => idAt_sz hz hk h)
    have HR := hid hR
    have HZ := hid hz
    rw [hV]
    rw [ht] at CT
    clear hV hR hz ht hT
    obtain ⟨n, hnn⟩ : ∃ n, ts.length = n := ⟨_, rfl⟩
    have HN := hid hnn
    rw [hnn] at hn CT CI HF HT CZ ⊢
    clear hnn
    go_enter Tryz.func29, Tryz.ntmps29
    go_wp2_with fail
    refine CT.out.mono ?_
    rintro e w1 ⟨rfl, hb1⟩
    have HB1 := hid hb1
    clear hb1 CT
    go_wp2_with fail
    go_loopw [12] (fun v wr => ∃ k : Nat, v = .int .i64 (k : Int) ∧ k ≤ n ∧ Hid (IdsP ts k) ∧ Hid (Below w.heap.size w wr)) (fun v _ => n - (intOf v).toNat)
    case atStart => exact ⟨0, rfl, Nat.zero_le _, idsP_zero ts, HB1.out⟩
    case round =>
      clear HB1
      obtain ⟨k, rfl, hk, HP, HB⟩ := hrel
      by_cases hlt : k < n
      · have hkn : (k : Int) < (n : Int) := by omega
        have hks : k < ts.length := by rw [HN.out]; exact hlt
        obtain ⟨b, o, aa, ca, rfl, hb, q0, q1, q2, q3, hA⟩ := HR.out.below HB.out k hks
        have h3 := HZ.out _ (List.getElem_mem hks)
        have CV := hid (fun wx (hx : Below wr.heap.size wr wx) => cValueInI aa ca ts[k].attrs idS wx (hA.below hx) h3.2.2.1 h3.2.1 (by decide))
        rw [← idAt_at hks] at CV
        have HB2 := hid (HB.out.alloc HB.out.size (.cells #[.int .i64 ts[k].kind, .string ts[k].name, .slice aa ts[k].attrs.length ca, .string ts[k].text] 32))
        have CV2 := hid (CV.out _ ((Below.refl wr.heap.size wr).alloc (Nat.le_refl _) (.cells #[.int .i64 ts[k].kind, .string ts[k].name, .slice aa ts[k].attrs.length ca, .string ts[k].text] 32)))
        clear hA h3 CV hb
        generalize ts[k].kind = K at *
        generalize ts[k].name = NM at *
        generalize ts[k].text = TX at *
        generalize ts[k].attrs.length = na at *
        clear hks
        go_wp2_with fail
        refine CV2.out.mono ?_
        rintro e w2 ⟨rfl, hb2⟩
        have HB3 := hid (bb HB2.out hb2)
        clear hb2 CV2 HB2 q0 q1 q2 q3
        cases hv : idAt ts k with
        | none =>
          have HP2 := hid (idsP_none hv HP.out)
          clear hv
          go_wp2_with fail
          go_roundw
          case rel => exact ⟨k + 1, by go_num, by omega, HP2.out, HB3.out⟩
          case measure => simp [intOf]; omega
        | some v =>
          have HVI := hid hv
          have CO := hid (fun wx => cIdOk v wx (CZ.out k v hlt hv))
          have CA := hid (fun wx (h : Below w.heap.size w wx) => CI.out v wx h)
          have HFF := hid (find_first hlt hv)
          clear hv
          generalize findN ts v n = F at *
          cases hok : idOk v with
          | false =>
            have HW := hid (HF.out (idsP_bad HVI.out hlt (.inl hok)))
            rw [hok] at CO
            clear hok
            go_wp2_with fail
            refine (CO.out _).mono ?_
            rintro e w3 ⟨rfl, rfl⟩
            go_wp2_with fail
            go_ret
            exact ⟨by rw [HW.out]; rfl, HB3.out⟩
          | true =>
            have HOK := hid hok
            rw [hok] at CO
            clear hok
            rcases HFF.out with ⟨h1, h2⟩ | ⟨h1, h2⟩
            · have HP2 := hid (idsP_some HVI.out HP.out HOK.out h2)
              subst h1
              have e1 : ((k : Int) == (k : Int)) = true := by simp
              clear h2
              go_wp2_with fail
              refine (CO.out _).mono ?_
              rintro e w3 ⟨rfl, rfl⟩
              go_wp2_with fail
              refine (CA.out _ HB3.out).mono ?_
              rintro e w4 ⟨rfl, hb4⟩
              have HB4 := hid (bb HB3.out hb4)
              clear hb4
              go_wp2_with fail
              go_roundw
              case rel => exact ⟨k + 1, by go_num, by omega, HP2.out, HB4.out⟩
              case measure => simp [intOf]; omega
            · have HW := hid (HF.out (idsP_bad HVI.out hlt (.inr h2)))
              have e1 : (F == (k : Int)) = false := by simp; exact h1
              have e2 : (F != (k : Int)) = true := by simp; exact h1
              clear h2 h1
              go_wp2_with fail
              refine (CO.out _).mono ?_
              rintro e w3 ⟨rfl, rfl⟩
              go_wp2_with fail
              refine (CA.out _ HB3.out).mono ?_
              rintro e w4 ⟨rfl, hb4⟩
              have HB4 := hid (bb HB3.out hb4)
              clear hb4
              go_wp2_with fail
              go_ret
              exact ⟨by rw [HW.out]; rfl, HB4.out⟩
      · have hke : k = n := by omega
        subst hke
        have HW := hid (HT.out HP.out)
        go_wp2_with fail
        go_ret
        exact ⟨by rw [HW.out]; rfl, HB.out⟩

set_option maxHeartbeats 4000000 in
theorem cIdOfI (a : Option Addr) (cap : Nat) (ts : List Tk) (x : Int) (w : World) (hR : TkRow w a ts) (hn : ts.length ≤ 1048576) (hz : TksSz 1048576 ts) :
    Calls Tryz.prog 62 #[.slice a ts.length cap, .int .i64 x] w fun e w' => e = .returned (.string (idI ts x)) ∧ Below w.heap.size w w' := by
  have CH := hid (cThere a cap ts x w hR hn hz)
  have C := hid (fun wx (hb : Below w.heap.size w wx) => cIdsOkI a cap ts wx (hR.below hb) hn hz)
  cases hh : hasB ts x with
  | false =>
    have HE := hid (show idI ts x = ByteArray.empty by
      unfold idI
      refine if_neg (fun h => ?_)
      unfold hasB at hh
      rw [(idsB_t h.1).2, decide_eq_true h.2] at hh
      cases hh)
    rw [HE.out]
    rw [hh] at CH
    clear hh HE hR hz C
    generalize ts.length = n at *
    go_enter Tryz.func62, Tryz.ntmps62
    go_wp2_with fail
    refine CH.out.mono ?_
    rintro e w1 ⟨rfl, hb1⟩
    have HB1 := hid hb1
    clear hb1 CH
    go_wp2_with fail
    go_ret
    exact ⟨rfl, HB1.out⟩
  | true =>
    rw [hh] at CH
    obtain ⟨hT, k, rfl, hk⟩ := hasB_t hh
    cases hi : idsB ts with
    | false =>
      have HE := hid (show idI ts (k : Int) = ByteArray.empty by
        unfold idI
        refine if_neg (fun h => ?_)
        rw [hi] at h
        cases h.1)
      rw [HE.out]
      rw [hi] at C
      clear hh HE hR hz hi hT
      generalize ts.length = n at *
      go_enter Tryz.func62, Tryz.ntmps62
      go_wp2_with fail
      refine CH.out.mono ?_
      rintro e w1 ⟨rfl, hb1⟩
      have HB1 := hid hb1
      clear hb1 CH
      go_wp2_with fail
      refine (C.out _ HB1.out).mono ?_
      rintro e w2 ⟨rfl, hb2⟩
      have HB2 := hid (bb HB1.out hb2)
      clear hb2 C
      go_wp2_with fail
      go_ret
      exact ⟨rfl, HB2.out⟩
    | true =>
      have HE := hid (show idI ts (k : Int) = (idAt ts k).getD ByteArray.empty by
        unfold idI
        rw [if_pos ⟨hi, by omega, by omega⟩]
        rfl)
      rw [HE.out]
      rw [hi] at C
      have HR := hid (fun wx (hb : Below w.heap.size w wx) => ats_row (hR.below hb) hk)
      have h3 := hz _ (List.getElem_mem hk)
      have CV := hid (fun aa ca wx (hA : AtRow wx aa ts[k].attrs) => cValueInI aa ca ts[k].attrs idS wx hA h3.2.2.1 h3.2.1 (by decide))
      rw [← idAt_at hk] at CV
      have hkn : (k : Int) < (ts.length : Int) := by omega
      clear hh HE hR hz hi hT h3
      generalize idAt ts k = I at *
      generalize ts[k].attrs = L at *
      generalize ts.length = n at *
      go_enter Tryz.func62, Tryz.ntmps62
      go_wp2_with fail
      refine CH.out.mono ?_
      rintro e w1 ⟨rfl, hb1⟩
      have HB1 := hid hb1
      clear hb1 CH
      go_wp2_with fail
      refine (C.out _ HB1.out).mono ?_
      rintro e w2 ⟨rfl, hb2⟩
      have HB2 := hid (bb HB1.out hb2)
      clear hb2 C
      obtain ⟨b, o, aa, ca, rfl, c2, hA⟩ := HR.out _ HB2.out
      have CV2 := hid (CV.out aa ca _ hA)
      clear hA CV HR
      generalize L.length = na at *
      go_wp2_with fail
      refine CV2.out.mono ?_
      rintro e w3 ⟨rfl, hb3⟩
      have HB3 := hid (bb HB2.out hb3)
      clear hb3 CV2 c2
      go_wp2_with fail
      go_ret
      exact ⟨rfl, HB3.out⟩

end Go.Proofs.YtnbpcgeojmikoaaGreatDoor

namespace Go.Proofs.YtnbpcgeojmikoaaGreatDoor
open Go.RowKit
set_option linter.unusedVariables false
set_option linter.unusedSimpArgs false

theorem preS_szJ {s : ByteArray} (h : s.size ≤ 100) : (preS s).size ≤ 100 := by
  unfold preS
  rw [size_mk]
  have e : s.data.toList.length = s.size := rfl
  unfold partP
  split
  · have := len_pre s.data.toList
    omega
  · simp

theorem meanF_szJ {ts : List Tk} {i : Nat} (hz : TksSz 100 ts) (p : ByteArray) : ((meanF ts i p).getD ⟨#[]⟩).size ≤ 100 := by
  unfold meanF meanL
  split
  · cases hf : (upAts ts (chainF ts (i + 1))).find? (declB p) with
    | none =>
      simp only
      split
      · exact Nat.zero_le _
      · exact Nat.zero_le _
    | some y =>
      simp only [Option.getD_some]
      have hy := List.mem_of_find?_eq_some hf
      unfold upAts at hy
      obtain ⟨j, _, hj⟩ := List.mem_flatMap.1 hy
      cases ht : ts[j]? with
      | none => rw [ht] at hj; exact absurd hj List.not_mem_nil
      | some t =>
        rw [ht] at hj
        exact ((hz t (List.mem_of_getElem? ht)).2.2.1 y hj).2
  · exact Nat.zero_le _

theorem dclL_allJ {ts : List Tk} {k : Nat} (hz : TksSz 100 ts) (sd : List At) (s : ByteArray) (ps : List ByteArray) (hp : ∀ p ∈ ps, p.size ≤ 100) : (dclL ts k sd s ps).1.length ≤ sd.length + ps.length ∧ (dclL ts k sd s ps).2.size ≤ s.size + 210 * ps.length := by
  unfold dclL
  induction ps generalizing sd s with
  | nil => exact ⟨by simp, by simp⟩
  | cons p ps ih =>
    rw [List.foldl_cons, List.length_cons]
    have h1 := hp p (by simp)
    have h2 : (mnF ts k p).size ≤ 100 := meanF_szJ hz p
    have h3 := dclS_size s p (mnF ts k p)
    unfold dclF
    simp only
    split
    · obtain ⟨g1, g2⟩ := ih sd s (fun q hq => hp q (by simp [hq]))
      unfold dclF at g1 g2
      exact ⟨by omega, by omega⟩
    · obtain ⟨g1, g2⟩ := ih (sd ++ [⟨p, mnF ts k p⟩]) (dclS s p (mnF ts k p)) (fun q hq => hp q (by simp [hq]))
      unfold dclF at g1 g2
      rw [List.length_append, List.length_singleton] at g1
      exact ⟨by omega, by omega⟩

theorem atsS_szCJ {l : List At} (hl : AtSz 100 l) (s : ByteArray) : (atsS l s).size ≤ s.size + 800 * l.length := by
  induction l generalizing s with
  | nil => simp [atsS]
  | cons x l ih =>
    have h1 := hl x (by simp)
    have h2 := atS_size x
    have h3 := ih (fun y hy => hl y (by simp [hy])) (s ++ atS x)
    rw [ByteArray.size_append] at h3
    show (atsS l (s ++ atS x)).size ≤ _
    rw [List.length_cons]
    omega

theorem nodeAt_szJ {ts : List Tk} (hz : TksSz 100 ts) (k : Nat) : TkSz 100 (nodeAt ts k) := by
  by_cases h : k < ts.length
  · rw [nodeAt_at h]; exact hz _ (List.getElem_mem h)
  · unfold nodeAt
    rw [List.getElem?_eq_none (by omega)]
    exact ⟨Nat.zero_le _, Nat.zero_le _, fun x hx => absurd hx List.not_mem_nil, Nat.zero_le _⟩

/-- Bounds of what stands ahead of the kids. -/
theorem head_allJ {ts : List Tk} {k : Nat} {sd : List At} {t : Tk} (hz : TksSz 100 ts) (ht : TkSz 100 t) (h6 : t.attrs.length ≤ 6) : (headS ts k sd t).size ≤ 6500 ∧ (saidL ts k sd t).length ≤ sd.length + 7 := by
  obtain ⟨p1, p2, p3⟩ := preL7_all (b := 100) (preS_szJ ht.1) t.attrs (fun x hx => preS_szJ (ht.2.2.1 x hx).1)
  obtain ⟨d1, d2⟩ := dclL_allJ (k := k) hz sd ((⟨#[60]⟩ : ByteArray) ++ t.name) (preL7 t.name t.attrs) p3
  obtain ⟨o1, o2⟩ := othL_all (ts := ts) (k := k) t.attrs
  have a1 := atsS_szCJ (l := othL ts k t.attrs) (fun y hy => ht.2.2.1 y (o2 y hy)) (dclL ts k sd ((⟨#[60]⟩ : ByteArray) ++ t.name) (preL7 t.name t.attrs)).2
  have e1 : ((⟨#[60]⟩ : ByteArray) ++ t.name).size = 1 + t.name.size := by rw [ByteArray.size_append]; rfl
  have e2 : (⟨#[62]⟩ : ByteArray).size = 1 := rfl
  have := ht.1
  unfold headS saidL
  rw [ByteArray.size_append, e2]
  exact ⟨by omega, by omega⟩

/-- It is not long. -/
theorem canon_sizeJ {ts : List Tk} (hT : TreeP ts) (hz : TksSz 100 ts) (but : Int) : ∀ f k sd, k < ts.length → (canonN ts but f k sd).size ≤ 7000 * (endN ts k - k)
  | 0, k, sd, _ => Nat.zero_le _
  | f + 1, k, sd, hk => by
    have hle := endN_le hk
    have hm : 7000 * 1 ≤ 7000 * (endN ts k - k) := Nat.mul_le_mul_left _ (by omega)
    have hsz := nodeAt_szJ hz k
    by_cases hb : (k : Int) = but
    · rw [canonN_but hb]
      exact Nat.zero_le _
    · by_cases hn : (nodeAt ts k).name.size = 0
      · rw [canonN_text rfl hb hn]
        have h1 := escS_size false (nodeAt ts k).text
        have h2 := hsz.2.2.2
        omega
      · rw [canonN_el rfl hb hn]
        have h1 := (head_allJ (k := k) (sd := sd) hz hsz (six_at hT k hn)).1
        obtain ⟨m, m1, m2, m3, _⟩ := kids_sum 7000 (fun j => (canonN ts but f j (saidL ts k sd (nodeAt ts k))).size) hk (fun i h1 h2 => canon_sizeJ hT hz but f i _ (by omega)) (endN ts k) hle.1 (Nat.le_refl _)
        have e1 : (⟨#[60, 47]⟩ : ByteArray).size = 2 := rfl
        have e2 : (⟨#[62]⟩ : ByteArray).size = 1 := rfl
        rw [ByteArray.size_append, ByteArray.size_append, ByteArray.size_append, fold_size, kidsTo_end hT hk, e1, e2]
        have h3 : 7000 * (m - (k + 1)) ≤ 7000 * (endN ts k - (k + 1)) := Nat.mul_le_mul_left _ (by omega)
        have h4 : 7000 * (endN ts k - (k + 1)) + 7000 * 1 = 7000 * (endN ts k - k) := by rw [← Nat.mul_add]; congr 1; omega
        have h5 := hsz.1
        omega

theorem nameL_lenJ {l : List UInt8} (h : nameL l = true) : l.length ≤ 21 := by
  unfold nameL at h
  split at h
  · unfold lettersL at h
    simp only [Bool.and_eq_true, decide_eq_true_eq] at h
    omega
  · rename_i a ha
    rw [Bool.and_eq_true] at h
    obtain ⟨h1, h2⟩ := h
    unfold lettersL at h1 h2
    simp only [Bool.and_eq_true, decide_eq_true_eq] at h1 h2
    have e1 : (preL l).length = min a l.length := by unfold preL; rw [ha]; simp
    have e2 : (locL l).length = l.length - (a + 1) := by unfold locL; rw [ha]; simp
    have : a < l.length := by
      unfold colonAt at ha
      rw [List.findIdx?_eq_some_iff_getElem] at ha
      exact ha.1
    omega

theorem node_rightJ {ts : List Tk} (hT : TreeP ts) {x : Nat} (hx : x < ts.length) : nodeB ts[x] = true := by
  obtain ⟨⟨_, h⟩, _⟩ := hT.2.2.2.2 x hx
  exact h

/-- What stands in a tree is small. -/
theorem tree_smallJ {ts : List Tk} (hT : TreeP ts) : TksSz 100 ts := by
  intro t ht
  obtain ⟨k, hk, rfl⟩ := List.getElem_of_mem ht
  have ht := tree_text hT k
  rw [textAt_at hk] at ht
  have hb := node_rightJ hT hk
  by_cases h0 : ts[k].name.size = 0
  · rw [nodeB_tx h0, Bool.and_eq_true] at hb
    have hl := of_decide_eq_true hb.1
    exact ⟨by omega, by omega, fun x hx => by rw [List.eq_nil_of_length_eq_zero hl] at hx; exact absurd hx List.not_mem_nil, by omega⟩
  · rw [nodeB_el h0, Bool.and_eq_true, Bool.and_eq_true] at hb
    have ho : AttrsOk ts[k].attrs := by
      by_cases q : AttrsOk ts[k].attrs
      · exact q
      · rw [attrsB_f q] at hb; cases hb.2.1
    have hnm := nameL_lenJ hb.1
    rw [← sz] at hnm
    refine ⟨by omega, by have := ho.1; omega, fun x hx => ?_, by omega⟩
    obtain ⟨j, hj, rfl⟩ := List.getElem_of_mem hx
    obtain ⟨z1, z2, z3⟩ := ho.2.1 j hj hj
    have := nameL_lenJ z1
    rw [← sz] at this
    exact ⟨by omega, by omega⟩

theorem canon_tiny {ts : List Tk} (hT : TreeP ts) (but : Int) (f k : Nat) (sd : List At) (hk : k < ts.length) : (canonN ts but f k sd).size ≤ 350000 := by
  have h1 := canon_sizeJ hT (tree_smallJ hT) but f k sd hk
  have h2 := (endN_le hk).2
  have h50 : ts.length ≤ 50 := hT.2.1
  have h3 : 7000 * (endN ts k - k) ≤ 7000 * 50 := Nat.mul_le_mul_left _ (by omega)
  omega

end Go.Proofs.YtnbpcgeojmikoaaGreatDoor
