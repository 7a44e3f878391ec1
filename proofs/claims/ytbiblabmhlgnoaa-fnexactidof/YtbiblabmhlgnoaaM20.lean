/- Contracts of the specification's l12All, AllKnown. Contracts of IdsOk, FindId, IdOf, AllKnown of the program. -/
import Derived.Test.YtbiblabmhlgnoaaM11
import Derived.Test.YtbiblabmhlgnoaaM19
import Derived.Test.YtbiblabmhlgnoaaM17
namespace Go.Proofs.Ytbiblabmhlgnoaa
open Go.RowKit
set_option linter.unusedVariables false
set_option linter.unusedSimpArgs false

set_option maxRecDepth 8000 in
set_option maxHeartbeats 4000000 in
theorem c_spec_l12All (a : Option Addr) (cap : Nat) (ts : List Tk) (l m : ByteArray) (w : World) (hR : TkRow w a ts) (hT : TreeP ts) (hn : ts.length ≤ 1048576) (hz : TksSz 1048576 ts) :
    Calls Try.prog 46 #[.slice a ts.length cap, .string l, .string m] w fun e w' => ∃ v, e = .returned v ∧ w'.ownsRow w.heap.size 2 1 v (allTo ts l m ts.length).length (intC (allTo ts l m ts.length)) ∧ Below w.heap.size w w' := by
  obtain ⟨i0, hi, hz0, hz1, hz2⟩ := info_parts info64
  have HI := hid (And.intro hi (And.intro hz0 (And.intro hz1 hz2)))
  clear hi hz0 hz1 hz2
  have CK := hid (fun (k : Nat) (hk : k < ts.length) wx (hb : Below w.heap.size w wx) => c_spec_l9Known a cap ts k l m wx (hR.below hb) hT hk hn hz)
  have CN := hid (fun (k : Nat) (hk : k < ts.length) wx (hb : Below w.heap.size w wx) => name_row (hR.below hb) hk)
  clear hR hT hz
  obtain ⟨n, hnn⟩ : ∃ n, ts.length = n := ⟨_, rfl⟩
  rw [hnn] at hn CK CN ⊢
  clear hnn
  go_enter Try.func46, Try.ntmps46
  go_wp2_with fail
  go_loopw [7, 8] (fun v x wr => ∃ e : Nat, x = .int .i64 (e : Int) ∧ e ≤ n ∧ Hid (wr.ownsRow w.heap.size 2 1 v (allTo ts l m e).length (intC (allTo ts l m e))) ∧ Hid (Below w.heap.size w wr)) (fun _ x _ => n - (intOf x).toNat)
  case atStart => exact ⟨0, rfl, Nat.zero_le _, World.ownsRow_made _ _ _ (Nat.le_refl _) (by decide) rfl, (Below.refl _ _).alloc (Nat.le_refl _) _⟩
  case round =>
    obtain ⟨e, rfl, h2, HO, HB⟩ := hrel
    by_cases hlt : e < n
    · have hin : (e : Int) < (n : Int) := by omega
      obtain ⟨b, o, rfl, c1⟩ := CN.out e hlt _ HB.out
      have HX := hid (allTo_next ts l m e)
      have E := empty_is (nameI ts e)
      have CK1 := hid (fun wx (hb : Below w.heap.size w wx) => CK.out e hlt wx hb)
      generalize knownN ts e l m = K at *
      cases hq : decide ((nameI ts e).size = 0) with
      | true =>
        rw [hq] at E HX
        clear hq CK1
        generalize nameI ts e = N at *
        go_wp2_with fail
        go_roundw
        case rel => exact ⟨e + 1, by go_num, by omega, by rw [show allTo ts l m (e + 1) = allTo ts l m e by rw [HX.out]; exact List.append_nil _]; exact HO.out, HB.out⟩
        case measure => simp [intOf]; omega
      | false =>
        rw [hq] at E HX
        clear hq
        generalize nameI ts e = N at *
        go_wp2_with fail
        refine (CK1.out _ HB.out).mono ?_
        rintro e1 w1 ⟨rfl, hb1⟩
        have HB1 := hid (bb HB.out hb1)
        have HO1 := hid (ownsRow_below HO.out hb1)
        clear hb1 HO HB CK1 c1 E
        cases K with
        | false =>
          go_wp2_with fail
          go_roundw
          case rel => exact ⟨e + 1, by go_num, by omega, by rw [show allTo ts l m (e + 1) = allTo ts l m e by rw [HX.out]; exact List.append_nil _]; exact HO1.out, HB1.out⟩
          case measure => simp [intOf]; omega
        | true =>
          have hlen := allTo_len ts l m e
          obtain ⟨hi, hz0, hz1, hz2⟩ := HI.out
          have hsz := HB1.out.size
          have HOA := hid (HO1.out.alloc (.cells #[.int .i64 (e : Int)] 2))
          have hlen2 : (intC (allTo ts l m e)).length ≤ e := by rw [intC_len]; exact hlen
          go_wp2_with (at_builtin; refine wpList_append_own _ rfl _ _ 32 rfl w.heap.size 2 i0 (.int .i64 0) 1 8 Try.underlying32 hi hz0 hz1 hz2 rfl (by decide) _ _ _ rfl HOA.out ⟨w1.heap.size, 0, none⟩ 1 1 [.int .i64 (e : Int)] rfl rfl ?c1 ?c2 ?c3 ?c4 ?c5 ?_)
          case c1 => exact one_cell64 _ _
          case c2 => exact one_one64 _
          case c3 => unfold maxLen; omega
          case c4 => omega
          case c5 => simp; omega
          intro v' w2 hown' hgrow _
          have HO2 := hid (show w2.ownsRow w.heap.size 2 1 v' (allTo ts l m (e + 1)).length (intC (allTo ts l m (e + 1))) by rw [HX.out, intC_app, List.length_append]; exact hown')
          have HB2 := hid ((HB1.out.alloc hsz (.cells #[.int .i64 (e : Int)] 2)).grown hgrow (by simp; omega) (fun g hg => (HOA.out.lt g hg).1))
          clear hown' hgrow
          go_wp2_with fail
          go_roundw
          case rel => exact ⟨e + 1, by go_num, by omega, HO2.out, HB2.out⟩
          case measure => simp [intOf]; omega
    · have hee : e = n := by omega
      subst hee
      go_wp2_with fail
      go_ret
      exact ⟨_, rfl, HO.out, HB.out⟩

set_option maxHeartbeats 4000000 in
theorem cAllKnownS (a : Option Addr) (cap : Nat) (ts : List Tk) (l m : ByteArray) (w : World) (hR : TkRow w a ts) (hn : ts.length ≤ 1048576) (hz : TksSz 1048576 ts) :
    Calls Try.prog 20 #[.slice a ts.length cap, .string l, .string m] w fun e w' => ∃ v, e = .returned v ∧ w'.ownsRow w.heap.size 2 1 v (allI ts l m).length (intC (allI ts l m)) ∧ Below w.heap.size w w' := by
  have C := hid (cNamesOkS a cap ts w hR hn hz)
  by_cases hN : NamesP ts
  · rw [namesB_t hN] at C
    have HE := hid (show allI ts l m = allTo ts l m ts.length by unfold allI; rw [namesB_t hN]; rfl)
    rw [HE.out]
    have CA := hid (fun wx (hb : Below w.heap.size w wx) => c_spec_l12All a cap ts l m wx (hR.below hb) hN.1 hn hz)
    clear hR hz HE hN
    generalize allTo ts l m ts.length = L at *
    generalize ts.length = n at *
    go_enter Try.func20, Try.ntmps20
    go_wp2_with fail
    refine C.out.mono ?_
    rintro e w1 ⟨rfl, hb1⟩
    have CA1 := hid (CA.out _ hb1)
    have HB1 := hid hb1
    clear hb1 C CA
    go_wp2_with fail
    refine CA1.out.mono ?_
    rintro e w2 ⟨v, rfl, ho, hb2⟩
    have HB2 := hid (bb HB1.out hb2)
    have HO := hid (row64_mono ho HB1.out.size)
    clear hb2 ho CA1
    go_wp2_with fail
    go_ret
    exact ⟨_, rfl, HO.out, HB2.out⟩
  · rw [namesB_f hN] at C
    have HE := hid (show allI ts l m = [] by unfold allI; rw [namesB_f hN]; rfl)
    rw [HE.out]
    clear hR hz HE hN
    generalize ts.length = n at *
    go_enter Try.func20, Try.ntmps20
    go_wp2_with fail
    refine C.out.mono ?_
    rintro e w1 ⟨rfl, hb1⟩
    have HB1 := hid hb1
    clear hb1 C
    go_wp2_with fail
    go_ret
    exact ⟨_, rfl, World.ownsRow_made _ _ _ HB1.out.size (by decide) rfl, HB1.out.alloc HB1.out.size _⟩

end Go.Proofs.Ytbiblabmhlgnoaa

namespace Go.Proofs.Ytbiblabmhlgnoaa
open Go.RowKit
set_option linter.unusedVariables false
set_option linter.unusedSimpArgs false

theorem first_of {P : Nat → Prop} : ∀ k, (∀ j, j < k → ¬ P j) ∨ ∃ j, j < k ∧ P j ∧ ∀ i, i < j → ¬ P i
  | 0 => .inl fun j h => absurd h (Nat.not_lt_zero _)
  | k + 1 => by
    rcases first_of (P := P) k with h | ⟨j, hj, h1, h2⟩
    · by_cases q : P k
      · exact .inr ⟨k, Nat.lt_succ_self _, q, h⟩
      · refine .inl fun j hj => ?_
        rcases Nat.lt_or_eq_of_le (Nat.le_of_lt_succ hj) with h' | rfl
        · exact h j h'
        · exact q
    · exact .inr ⟨j, by omega, h1, h2⟩

/-- Who is found by an identifier that a node bears: that node, or one ahead of it that bears it too. -/
theorem find_first {ts : List Tk} {k n : Nat} {v : ByteArray} (hk : k < n) (h : idAt ts k = some v) : (findN ts v n = (k : Int) ∧ ¬ v ∈ idsTo ts k) ∨ (¬ findN ts v n = (k : Int) ∧ v ∈ idsTo ts k) := by
  rcases first_of (P := fun j => idAt ts j = some v) k with q | ⟨j, hj, h1, h2⟩
  · refine .inl ⟨findN_at hk q h, fun hm => ?_⟩
    obtain ⟨j, hj, e⟩ := mem_idsTo.1 hm
    exact q j hj e
  · refine .inr ⟨?_, mem_idsTo.2 ⟨j, hj, h1⟩⟩
    rw [findN_at (by omega) h2 h1]
    omega

set_option maxRecDepth 8000 in
set_option maxHeartbeats 8000000 in
theorem cIdsOkI (a : Option Addr) (cap : Nat) (ts : List Tk) (w : World) (hR : TkRow w a ts) (hn : ts.length ≤ 1048576) (hz : TksSz 1048576 ts) :
    Calls Try.prog 17 #[.slice a ts.length cap] w fun e w' => e = .returned (.bool (idsB ts)) ∧ Below w.heap.size w w' := by
  have CT := hid (cTreeOkI a cap ts w hR hn hz)
  cases ht : treeB ts with
  | false =>
    have HE := hid (show idsB ts = false by unfold idsB; rw [ht, Bool.and_false])
    rw [HE.out]
    rw [ht] at CT
    clear ht HE hR hz
    generalize ts.length = n at *
    go_enter Try.func17, Try.ntmps17
    go_wp2_with fail
    refine CT.out.mono ?_
    rintro e w1 ⟨rfl, hb1⟩
    have HB1 := hid hb1
    clear hb1 CT
    go_wp2_with fail
    go_ret
    exact ⟨rfl, HB1.out⟩
  | true =>
    have hT := treeB_p ht
    obtain ⟨V, hV⟩ : ∃ V, idsB ts = V := ⟨_, rfl⟩
    have HF : Hid (¬ IdsP ts ts.length → V = false) := fun h => by rw [← hV]; exact idsB_f h
    have HT : Hid (IdsP ts ts.length → V = true) := fun h => by rw [← hV, idsB_is h]; exact ht
    have CI := hid (fun (v : ByteArray) wx (hb : Below w.heap.size w wx) => cIdAtI a cap ts v wx (hR.below hb) hT hn hz)
    have CZ := hid (fun (k : Nat) (v : ByteArray) (hk : k < ts.length) (h : idAt ts k = some v) => idAt_sz hz hk h)
    have HR := hid hR
    have HZ := hid hz
    rw [hV]
    rw [ht] at CT
    clear hV hR hz ht hT
    obtain ⟨n, hnn⟩ : ∃ n, ts.length = n := ⟨_, rfl⟩
    have HN := hid hnn
    rw [hnn] at hn CT CI HF HT CZ ⊢
    clear hnn
    go_enter Try.func17, Try.ntmps17
    go_wp2_with fail
    refine CT.out.mono ?_
    rintro e w1 ⟨rfl, hb1⟩
    have HB1 := hid hb1
    clear hb1 CT
    go_wp2_with fail
    go_loopw [12] (fun v wr => ∃ k : Nat, v = .int .i64 (k : Int) ∧ k ≤ n ∧ Hid (IdsP ts k) ∧ Hid (Below w.heap.size w wr)) (fun v _ => n - (intOf v).toNat)
    case atStart => exact ⟨0, rfl, Nat.zero_le _, idsP_zero ts, HB1.out⟩
    case round =>
      clear HB1
      obtain ⟨k, rfl, hk, HP, HB⟩ := hrel
      by_cases hlt : k < n
      · have hkn : (k : Int) < (n : Int) := by omega
        have hks : k < ts.length := by rw [HN.out]; exact hlt
        obtain ⟨b, o, aa, ca, rfl, hb, q0, q1, q2, q3, hA⟩ := HR.out.below HB.out k hks
        have h3 := HZ.out _ (List.getElem_mem hks)
        have CV := hid (fun wx (hx : Below wr.heap.size wr wx) => cValueInI aa ca ts[k].attrs idS wx (hA.below hx) h3.2.2.1 h3.2.1 (by decide))
        rw [← idAt_at hks] at CV
        have HB2 := hid (HB.out.alloc HB.out.size (.cells #[.int .i64 ts[k].kind, .string ts[k].name, .slice aa ts[k].attrs.length ca, .string ts[k].text] 56))
        have CV2 := hid (CV.out _ ((Below.refl wr.heap.size wr).alloc (Nat.le_refl _) (.cells #[.int .i64 ts[k].kind, .string ts[k].name, .slice aa ts[k].attrs.length ca, .string ts[k].text] 56)))
        clear hA h3 CV hb
        generalize ts[k].kind = K at *
        generalize ts[k].name = NM at *
        generalize ts[k].text = TX at *
        generalize ts[k].attrs.length = na at *
        clear hks
        go_wp2_with fail
        refine CV2.out.mono ?_
        rintro e w2 ⟨rfl, hb2⟩
        have HB3 := hid (bb HB2.out hb2)
        clear hb2 CV2 HB2 q0 q1 q2 q3
        cases hv : idAt ts k with
        | none =>
          have HP2 := hid (idsP_none hv HP.out)
          clear hv
          go_wp2_with fail
          go_roundw
          case rel => exact ⟨k + 1, by go_num, by omega, HP2.out, HB3.out⟩
          case measure => simp [intOf]; omega
        | some v =>
          have HVI := hid hv
          have CO := hid (fun wx => cIdOk v wx (CZ.out k v hlt hv))
          have CA := hid (fun wx (h : Below w.heap.size w wx) => CI.out v wx h)
          have HFF := hid (find_first hlt hv)
          clear hv
          generalize findN ts v n = F at *
          cases hok : idOk v with
          | false =>
            have HW := hid (HF.out (idsP_bad HVI.out hlt (.inl hok)))
            rw [hok] at CO
            clear hok
            go_wp2_with fail
            refine (CO.out _).mono ?_
            rintro e w3 ⟨rfl, rfl⟩
            go_wp2_with fail
            go_ret
            exact ⟨by rw [HW.out]; rfl, HB3.out⟩
          | true =>
            have HOK := hid hok
            rw [hok] at CO
            clear hok
            rcases HFF.out with ⟨h1, h2⟩ | ⟨h1, h2⟩
            · have HP2 := hid (idsP_some HVI.out HP.out HOK.out h2)
              subst h1
              have e1 : ((k : Int) == (k : Int)) = true := by simp
              clear h2
              go_wp2_with fail
              refine (CO.out _).mono ?_
              rintro e w3 ⟨rfl, rfl⟩
              go_wp2_with fail
              refine (CA.out _ HB3.out).mono ?_
              rintro e w4 ⟨rfl, hb4⟩
              have HB4 := hid (bb HB3.out hb4)
              clear hb4
              go_wp2_with fail
              go_roundw
              case rel => exact ⟨k + 1, by go_num, by omega, HP2.out, HB4.out⟩
              case measure => simp [intOf]; omega
            · have HW := hid (HF.out (idsP_bad HVI.out hlt (.inr h2)))
              have e1 : (F == (k : Int)) = false := by simp; exact h1
              have e2 : (F != (k : Int)) = true := by simp; exact h1
              clear h2 h1
              go_wp2_with fail
              refine (CO.out _).mono ?_
              rintro e w3 ⟨rfl, rfl⟩
              go_wp2_with fail
              refine (CA.out _ HB3.out).mono ?_
              rintro e w4 ⟨rfl, hb4⟩
              have HB4 := hid (bb HB3.out hb4)
              clear hb4
              go_wp2_with fail
              go_ret
              exact ⟨by rw [HW.out]; rfl, HB4.out⟩
      · have hke : k = n := by omega
        subst hke
        have HW := hid (HT.out HP.out)
        go_wp2_with fail
        go_ret
        exact ⟨by rw [HW.out]; rfl, HB.out⟩

set_option maxHeartbeats 4000000 in
theorem cFindIdI (a : Option Addr) (cap : Nat) (ts : List Tk) (id : ByteArray) (w : World) (hR : TkRow w a ts) (hn : ts.length ≤ 1048576) (hz : TksSz 1048576 ts) (hi : id.size ≤ 1048576) :
    Calls Try.prog 10 #[.slice a ts.length cap, .string id] w fun e w' => e = .returned (.int .i64 (findI ts id)) ∧ Below w.heap.size w w' := by
  have C := hid (cIdsOkI a cap ts w hR hn hz)
  cases hh : idsB ts with
  | false =>
    have HE := hid (show findI ts id = -1 by unfold findI; rw [hh]; rfl)
    rw [HE.out]
    rw [hh] at C
    clear hh HE hR hz
    generalize ts.length = n at *
    go_enter Try.func10, Try.ntmps10
    go_wp2_with fail
    refine C.out.mono ?_
    rintro e w1 ⟨rfl, hb1⟩
    have HB1 := hid hb1
    clear hb1 C
    go_wp2_with fail
    go_ret
    exact ⟨rfl, HB1.out⟩
  | true =>
    have hT := treeB_p (idsB_t hh).2
    have CA := hid (fun wx (hb : Below w.heap.size w wx) => cIdAtI a cap ts id wx (hR.below hb) hT hn hz)
    have HE := hid (show findI ts id = findN ts id ts.length by unfold findI; rw [hh]; rfl)
    rw [HE.out]
    rw [hh] at C
    clear hh HE hR hz hT
    generalize findN ts id ts.length = F at *
    generalize ts.length = n at *
    go_enter Try.func10, Try.ntmps10
    go_wp2_with fail
    refine C.out.mono ?_
    rintro e w1 ⟨rfl, hb1⟩
    have HB1 := hid hb1
    clear hb1 C
    go_wp2_with fail
    refine (CA.out _ HB1.out).mono ?_
    rintro e w2 ⟨rfl, hb2⟩
    have HB2 := hid (bb HB1.out hb2)
    clear hb2 CA
    go_wp2_with fail
    go_ret
    exact ⟨rfl, HB2.out⟩

set_option maxHeartbeats 4000000 in
theorem cIdOfI (a : Option Addr) (cap : Nat) (ts : List Tk) (x : Int) (w : World) (hR : TkRow w a ts) (hn : ts.length ≤ 1048576) (hz : TksSz 1048576 ts) :
    Calls Try.prog 15 #[.slice a ts.length cap, .int .i64 x] w fun e w' => e = .returned (.string (idI ts x)) ∧ Below w.heap.size w w' := by
  have CH := hid (cThere a cap ts x w hR hn hz)
  have C := hid (fun wx (hb : Below w.heap.size w wx) => cIdsOkI a cap ts wx (hR.below hb) hn hz)
  cases hh : hasB ts x with
  | false =>
    have HE := hid (show idI ts x = ByteArray.empty by
      unfold idI
      refine if_neg (fun h => ?_)
      unfold hasB at hh
      rw [(idsB_t h.1).2, decide_eq_true h.2] at hh
      cases hh)
    rw [HE.out]
    rw [hh] at CH
    clear hh HE hR hz C
    generalize ts.length = n at *
    go_enter Try.func15, Try.ntmps15
    go_wp2_with fail
    refine CH.out.mono ?_
    rintro e w1 ⟨rfl, hb1⟩
    have HB1 := hid hb1
    clear hb1 CH
    go_wp2_with fail
    go_ret
    exact ⟨rfl, HB1.out⟩
  | true =>
    rw [hh] at CH
    obtain ⟨hT, k, rfl, hk⟩ := hasB_t hh
    cases hi : idsB ts with
    | false =>
      have HE := hid (show idI ts (k : Int) = ByteArray.empty by
        unfold idI
        refine if_neg (fun h => ?_)
        rw [hi] at h
        cases h.1)
      rw [HE.out]
      rw [hi] at C
      clear hh HE hR hz hi hT
      generalize ts.length = n at *
      go_enter Try.func15, Try.ntmps15
      go_wp2_with fail
      refine CH.out.mono ?_
      rintro e w1 ⟨rfl, hb1⟩
      have HB1 := hid hb1
      clear hb1 CH
      go_wp2_with fail
      refine (C.out _ HB1.out).mono ?_
      rintro e w2 ⟨rfl, hb2⟩
      have HB2 := hid (bb HB1.out hb2)
      clear hb2 C
      go_wp2_with fail
      go_ret
      exact ⟨rfl, HB2.out⟩
    | true =>
      have HE := hid (show idI ts (k : Int) = (idAt ts k).getD ByteArray.empty by
        unfold idI
        rw [if_pos ⟨hi, by omega, by omega⟩]
        rfl)
      rw [HE.out]
      rw [hi] at C
      have HR := hid (fun wx (hb : Below w.heap.size w wx) => ats_row (hR.below hb) hk)
      have h3 := hz _ (List.getElem_mem hk)
      have CV := hid (fun aa ca wx (hA : AtRow wx aa ts[k].attrs) => cValueInI aa ca ts[k].attrs idS wx hA h3.2.2.1 h3.2.1 (by decide))
      rw [← idAt_at hk] at CV
      have hkn : (k : Int) < (ts.length : Int) := by omega
      clear hh HE hR hz hi hT h3
      generalize idAt ts k = I at *
      generalize ts[k].attrs = L at *
      generalize ts.length = n at *
      go_enter Try.func15, Try.ntmps15
      go_wp2_with fail
      refine CH.out.mono ?_
      rintro e w1 ⟨rfl, hb1⟩
      have HB1 := hid hb1
      clear hb1 CH
      go_wp2_with fail
      refine (C.out _ HB1.out).mono ?_
      rintro e w2 ⟨rfl, hb2⟩
      have HB2 := hid (bb HB1.out hb2)
      clear hb2 C
      obtain ⟨b, o, aa, ca, rfl, c2, hA⟩ := HR.out _ HB2.out
      have CV2 := hid (CV.out aa ca _ hA)
      clear hA CV HR
      generalize L.length = na at *
      go_wp2_with fail
      refine CV2.out.mono ?_
      rintro e w3 ⟨rfl, hb3⟩
      have HB3 := hid (bb HB2.out hb3)
      clear hb3 CV2 c2
      go_wp2_with fail
      go_ret
      exact ⟨rfl, HB3.out⟩

set_option maxRecDepth 8000 in
set_option maxHeartbeats 8000000 in
theorem cAllKnownI (a : Option Addr) (cap : Nat) (ts : List Tk) (l m : ByteArray) (w : World) (hR : TkRow w a ts) (hn : ts.length ≤ 1048576) (hz : TksSz 1048576 ts) (hl : l.size ≤ 1048576) (hm : m.size ≤ 1048576) :
    Calls Try.prog 13 #[.slice a ts.length cap, .string l, .string m] w fun e w' => ∃ v, e = .returned v ∧ w'.ownsRow w.heap.size 2 1 v (allI ts l m).length (intC (allI ts l m)) ∧ Below w.heap.size w w' := by
  obtain ⟨i0, hi, hz0, hz1, hz2⟩ := info_parts info64
  have HI := hid (And.intro hi (And.intro hz0 (And.intro hz1 hz2)))
  clear hi hz0 hz1 hz2
  have C := hid (cNamesOkI a cap ts w hR hn hz)
  by_cases hN : NamesP ts
  · rw [namesB_t hN] at C
    have HE := hid (show allI ts l m = allTo ts l m ts.length by unfold allI; rw [namesB_t hN]; rfl)
    rw [HE.out]
    have CK := hid (fun (k : Nat) wx (hb : Below w.heap.size w wx) => cKnownI a cap ts (k : Int) l m wx (hR.below hb) hn hz hl hm)
    have HKN := hid (fun (k : Nat) (hk : k < ts.length) => show knownI ts (k : Int) l m = (!decide ((nameI ts k).size = 0) && knownN ts k l m) from by
      unfold knownI elemB hasB
      rw [treeB_t hN.1, decide_eq_true (show (0 : Int) ≤ (k : Int) ∧ (k : Int) < ts.length by omega)]
      rfl)
    clear hR hz HE hN
    obtain ⟨n, hnn⟩ : ∃ n, ts.length = n := ⟨_, rfl⟩
    rw [hnn] at hn C CK HKN ⊢
    clear hnn
    go_enter Try.func13, Try.ntmps13
    go_wp2_with fail
    refine C.out.mono ?_
    rintro e w1 ⟨rfl, hb1⟩
    have HB1 := hid hb1
    clear hb1 C
    go_wp2_with fail
    go_loopw [7, 14] (fun v x wr => ∃ e : Nat, x = .int .i64 (e : Int) ∧ e ≤ n ∧ Hid (wr.ownsRow w.heap.size 2 1 v (allTo ts l m e).length (intC (allTo ts l m e))) ∧ Hid (Below w.heap.size w wr)) (fun _ x _ => n - (intOf x).toNat)
    case atStart => exact ⟨0, rfl, Nat.zero_le _, World.ownsRow_nil _ _ _ _, HB1.out⟩
    case round =>
      clear HB1
      obtain ⟨e, rfl, h2, HO, HB⟩ := hrel
      by_cases hlt : e < n
      · have hin : (e : Int) < (n : Int) := by omega
        have HX := hid (allTo_next ts l m e)
        have CK1 := hid (fun wx (hb : Below w.heap.size w wx) => CK.out e wx hb)
        rw [HKN.out e hlt] at CK1
        generalize (!decide ((nameI ts e).size = 0) && knownN ts e l m) = K at *
        go_wp2_with fail
        refine (CK1.out _ HB.out).mono ?_
        rintro e1 w1 ⟨rfl, hb1⟩
        have HB1 := hid (bb HB.out hb1)
        have HO1 := hid (ownsRow_below HO.out hb1)
        clear hb1 HO HB CK1
        cases K with
        | false =>
          go_wp2_with fail
          go_roundw
          case rel => exact ⟨e + 1, by go_num, by omega, by rw [show allTo ts l m (e + 1) = allTo ts l m e by rw [HX.out]; exact List.append_nil _]; exact HO1.out, HB1.out⟩
          case measure => simp [intOf]; omega
        | true =>
          have hlen := allTo_len ts l m e
          obtain ⟨hi, hz0, hz1, hz2⟩ := HI.out
          have hsz := HB1.out.size
          have HOA := hid (HO1.out.alloc (.cells #[.int .i64 (e : Int)] 2))
          have hlen2 : (intC (allTo ts l m e)).length ≤ e := by rw [intC_len]; exact hlen
          go_wp2_with (at_builtin; refine wpList_append_own _ rfl _ _ 32 rfl w.heap.size 2 i0 (.int .i64 0) 1 8 Try.underlying32 hi hz0 hz1 hz2 rfl (by decide) _ _ _ rfl HOA.out ⟨w1.heap.size, 0, none⟩ 1 1 [.int .i64 (e : Int)] rfl rfl ?c1 ?c2 ?c3 ?c4 ?c5 ?_)
          case c1 => exact one_cell64 _ _
          case c2 => exact one_one64 _
          case c3 => unfold maxLen; omega
          case c4 => omega
          case c5 => simp; omega
          intro v' w2 hown' hgrow _
          have HO2 := hid (show w2.ownsRow w.heap.size 2 1 v' (allTo ts l m (e + 1)).length (intC (allTo ts l m (e + 1))) by rw [HX.out, intC_app, List.length_append]; exact hown')
          have HB2 := hid ((HB1.out.alloc hsz (.cells #[.int .i64 (e : Int)] 2)).grown hgrow (by simp; omega) (fun g hg => (HOA.out.lt g hg).1))
          clear hown' hgrow
          go_wp2_with fail
          go_roundw
          case rel => exact ⟨e + 1, by go_num, by omega, HO2.out, HB2.out⟩
          case measure => simp [intOf]; omega
      · have hee : e = n := by omega
        subst hee
        go_wp2_with fail
        go_ret
        exact ⟨_, rfl, HO.out, HB.out⟩
  · rw [namesB_f hN] at C
    have HE := hid (show allI ts l m = [] by unfold allI; rw [namesB_f hN]; rfl)
    rw [HE.out]
    clear hR hz HE hN
    generalize ts.length = n at *
    go_enter Try.func13, Try.ntmps13
    go_wp2_with fail
    refine C.out.mono ?_
    rintro e w1 ⟨rfl, hb1⟩
    have HB1 := hid hb1
    clear hb1 C
    go_wp2_with fail
    go_ret
    exact ⟨_, rfl, World.ownsRow_nil _ _ _ _, HB1.out⟩

end Go.Proofs.Ytbiblabmhlgnoaa
