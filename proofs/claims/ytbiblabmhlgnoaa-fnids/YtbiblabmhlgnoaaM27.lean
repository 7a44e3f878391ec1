/- Contracts of IdsOk, FindId, IdOf, AllKnown of the program. The road of FnIds. -/
import Derived.Test.YtbiblabmhlgnoaaM26
import Derived.Test.YtbiblabmhlgnoaaM23
import Derived.Test.YtbiblabmhlgnoaaM15
import Derived.Test.YtbiblabmhlgnoaaM22
import Derived.Deep.CutRange
namespace Go.Proofs.Ytbiblabmhlgnoaa
open Go.RowKit
set_option linter.unusedVariables false
set_option linter.unusedSimpArgs false

theorem first_of {P : Nat → Prop} : ∀ k, (∀ j, j < k → ¬ P j) ∨ ∃ j, j < k ∧ P j ∧ ∀ i, i < j → ¬ P i
  | 0 => .inl fun j h => absurd h (Nat.not_lt_zero _)
  | k + 1 => by
    rcases first_of (P := P) k with h | ⟨j, hj, h1, h2⟩
    · by_cases q : P k
      · exact .inr ⟨k, Nat.lt_succ_self _, q, h⟩
      · refine .inl fun j hj => ?_
        rcases Nat.lt_or_eq_of_le (Nat.le_of_lt_succ hj) with h' | rfl
        · exact h j h'
        · exact q
    · exact .inr ⟨j, by omega, h1, h2⟩

/-- Who is found by an identifier that a node bears: that node, or one ahead of it that bears it too. -/
theorem find_first {ts : List Tk} {k n : Nat} {v : ByteArray} (hk : k < n) (h : idAt ts k = some v) : (findN ts v n = (k : Int) ∧ ¬ v ∈ idsTo ts k) ∨ (¬ findN ts v n = (k : Int) ∧ v ∈ idsTo ts k) := by
  rcases first_of (P := fun j => idAt ts j = some v) k with q | ⟨j, hj, h1, h2⟩
  · refine .inl ⟨findN_at hk q h, fun hm => ?_⟩
    obtain ⟨j, hj, e⟩ := mem_idsTo.1 hm
    exact q j hj e
  · refine .inr ⟨?_, mem_idsTo.2 ⟨j, hj, h1⟩⟩
    rw [findN_at (by omega) h2 h1]
    omega

set_option maxRecDepth 8000 in
set_option maxHeartbeats 8000000 in
theorem cIdsOkI (a : Option Addr) (cap : Nat) (ts : List Tk) (w : World) (hR : TkRow w a ts) (hn : ts.length ≤ 1048576) (hz : TksSz 1048576 ts) :
    Calls Try.prog 17 #[.slice a ts.length cap] w fun e w' => e = .returned (.bool (idsB ts)) ∧ Below w.heap.size w w' := by
  have CT := hid (cTreeOkI a cap ts w hR hn hz)
  cases ht : treeB ts with
  | false =>
    have HE := hid (show idsB ts = false by unfold idsB; rw [ht, Bool.and_false])
    rw [HE.out]
    rw [ht] at CT
    clear ht HE hR hz
    generalize ts.length = n at *
    go_enter Try.func17, Try.ntmps17
    go_wp2_with fail
    refine CT.out.mono ?_
    rintro e w1 ⟨rfl, hb1⟩
    have HB1 := hid hb1
    clear hb1 CT
    go_wp2_with fail
    go_ret
    exact ⟨rfl, HB1.out⟩
  | true =>
    have hT := treeB_p ht
    obtain ⟨V, hV⟩ : ∃ V, idsB ts = V := ⟨_, rfl⟩
    have HF : Hid (¬ IdsP ts ts.length → V = false) := fun h => by rw [← hV]; exact idsB_f h
    have HT : Hid (IdsP ts ts.length → V = true) := fun h => by rw [← hV, idsB_is h]; exact ht
    have CI := hid (fun (v : ByteArray) wx (hb : Below w.heap.size w wx) => cIdAtI a cap ts v wx (hR.below hb) hT hn hz)
    have CZ := hid (fun (k : Nat) (v : ByteArray) (hk : k < ts.length) (h : idAt ts k = some v) => idAt_sz hz hk h)
    have HR := hid hR
    have HZ := hid hz
    rw [hV]
    rw [ht] at CT
    clear hV hR hz ht hT
    obtain ⟨n, hnn⟩ : ∃ n, ts.length = n := ⟨_, rfl⟩
    have HN := hid hnn
    rw [hnn] at hn CT CI HF HT CZ ⊢
    clear hnn
    go_enter Try.func17, Try.ntmps17
    go_wp2_with fail
    refine CT.out.mono ?_
    rintro e w1 ⟨rfl, hb1⟩
    have HB1 := hid hb1
    clear hb1 CT
    go_wp2_with fail
    go_loopw [12] (fun v wr => ∃ k : Nat, v = .int .i64 (k : Int) ∧ k ≤ n ∧ Hid (IdsP ts k) ∧ Hid (Below w.heap.size w wr)) (fun v _ => n - (intOf v).toNat)
    case atStart => exact ⟨0, rfl, Nat.zero_le _, idsP_zero ts, HB1.out⟩
    case round =>
      clear HB1
      obtain ⟨k, rfl, hk, HP, HB⟩ := hrel
      by_cases hlt : k < n
      · have hkn : (k : Int) < (n : Int) := by omega
        have hks : k < ts.length := by rw [HN.out]; exact hlt
        obtain ⟨b, o, aa, ca, rfl, hb, q0, q1, q2, q3, hA⟩ := HR.out.below HB.out k hks
        have h3 := HZ.out _ (List.getElem_mem hks)
        have CV := hid (fun wx (hx : Below wr.heap.size wr wx) => cValueInI aa ca ts[k].attrs idS wx (hA.below hx) h3.2.2.1 h3.2.1 (by decide))
        rw [← idAt_at hks] at CV
        have HB2 := hid (HB.out.alloc HB.out.size (.cells #[.int .i64 ts[k].kind, .string ts[k].name, .slice aa ts[k].attrs.length ca, .string ts[k].text] 56))
        have CV2 := hid (CV.out _ ((Below.refl wr.heap.size wr).alloc (Nat.le_refl _) (.cells #[.int .i64 ts[k].kind, .string ts[k].name, .slice aa ts[k].attrs.length ca, .string ts[k].text] 56)))
        clear hA h3 CV hb
        generalize ts[k].kind = K at *
        generalize ts[k].name = NM at *
        generalize ts[k].text = TX at *
        generalize ts[k].attrs.length = na at *
        clear hks
        go_wp2_with fail
        refine CV2.out.mono ?_
        rintro e w2 ⟨rfl, hb2⟩
        have HB3 := hid (bb HB2.out hb2)
        clear hb2 CV2 HB2 q0 q1 q2 q3
        cases hv : idAt ts k with
        | none =>
          have HP2 := hid (idsP_none hv HP.out)
          clear hv
          go_wp2_with fail
          go_roundw
          case rel => exact ⟨k + 1, by go_num, by omega, HP2.out, HB3.out⟩
          case measure => simp [intOf]; omega
        | some v =>
          have HVI := hid hv
          have CO := hid (fun wx => cIdOk v wx (CZ.out k v hlt hv))
          have CA := hid (fun wx (h : Below w.heap.size w wx) => CI.out v wx h)
          have HFF := hid (find_first hlt hv)
          clear hv
          generalize findN ts v n = F at *
          cases hok : idOk v with
          | false =>
            have HW := hid (HF.out (idsP_bad HVI.out hlt (.inl hok)))
            rw [hok] at CO
            clear hok
            go_wp2_with fail
            refine (CO.out _).mono ?_
            rintro e w3 ⟨rfl, rfl⟩
            go_wp2_with fail
            go_ret
            exact ⟨by rw [HW.out]; rfl, HB3.out⟩
          | true =>
            have HOK := hid hok
            rw [hok] at CO
            clear hok
            rcases HFF.out with ⟨h1, h2⟩ | ⟨h1, h2⟩
            · have HP2 := hid (idsP_some HVI.out HP.out HOK.out h2)
              subst h1
              have e1 : ((k : Int) == (k : Int)) = true := by simp
              clear h2
              go_wp2_with fail
              refine (CO.out _).mono ?_
              rintro e w3 ⟨rfl, rfl⟩
              go_wp2_with fail
              refine (CA.out _ HB3.out).mono ?_
              rintro e w4 ⟨rfl, hb4⟩
              have HB4 := hid (bb HB3.out hb4)
              clear hb4
              go_wp2_with fail
              go_roundw
              case rel => exact ⟨k + 1, by go_num, by omega, HP2.out, HB4.out⟩
              case measure => simp [intOf]; omega
            · have HW := hid (HF.out (idsP_bad HVI.out hlt (.inr h2)))
              have e1 : (F == (k : Int)) = false := by simp; exact h1
              have e2 : (F != (k : Int)) = true := by simp; exact h1
              clear h2 h1
              go_wp2_with fail
              refine (CO.out _).mono ?_
              rintro e w3 ⟨rfl, rfl⟩
              go_wp2_with fail
              refine (CA.out _ HB3.out).mono ?_
              rintro e w4 ⟨rfl, hb4⟩
              have HB4 := hid (bb HB3.out hb4)
              clear hb4
              go_wp2_with fail
              go_ret
              exact ⟨by rw [HW.out]; rfl, HB4.out⟩
      · have hke : k = n := by omega
        subst hke
        have HW := hid (HT.out HP.out)
        go_wp2_with fail
        go_ret
        exact ⟨by rw [HW.out]; rfl, HB.out⟩

set_option maxHeartbeats 4000000 in
theorem cFindIdI (a : Option Addr) (cap : Nat) (ts : List Tk) (id : ByteArray) (w : World) (hR : TkRow w a ts) (hn : ts.length ≤ 1048576) (hz : TksSz 1048576 ts) (hi : id.size ≤ 1048576) :
    Calls Try.prog 10 #[.slice a ts.length cap, .string id] w fun e w' => e = .returned (.int .i64 (findI ts id)) ∧ Below w.heap.size w w' := by
  have C := hid (cIdsOkI a cap ts w hR hn hz)
  cases hh : idsB ts with
  | false =>
    have HE := hid (show findI ts id = -1 by unfold findI; rw [hh]; rfl)
    rw [HE.out]
    rw [hh] at C
    clear hh HE hR hz
    generalize ts.length = n at *
    go_enter Try.func10, Try.ntmps10
    go_wp2_with fail
    refine C.out.mono ?_
    rintro e w1 ⟨rfl, hb1⟩
    have HB1 := hid hb1
    clear hb1 C
    go_wp2_with fail
    go_ret
    exact ⟨rfl, HB1.out⟩
  | true =>
    have hT := treeB_p (idsB_t hh).2
    have CA := hid (fun wx (hb : Below w.heap.size w wx) => cIdAtI a cap ts id wx (hR.below hb) hT hn hz)
    have HE := hid (show findI ts id = findN ts id ts.length by unfold findI; rw [hh]; rfl)
    rw [HE.out]
    rw [hh] at C
    clear hh HE hR hz hT
    generalize findN ts id ts.length = F at *
    generalize ts.length = n at *
    go_enter Try.func10, Try.ntmps10
    go_wp2_with fail
    refine C.out.mono ?_
    rintro e w1 ⟨rfl, hb1⟩
    have HB1 := hid hb1
    clear hb1 C
    go_wp2_with fail
    refine (CA.out _ HB1.out).mono ?_
    rintro e w2 ⟨rfl, hb2⟩
    have HB2 := hid (bb HB1.out hb2)
    clear hb2 CA
    go_wp2_with fail
    go_ret
    exact ⟨rfl, HB2.out⟩

set_option maxHeartbeats 4000000 in
theorem cIdOfI (a : Option Addr) (cap : Nat) (ts : List Tk) (x : Int) (w : World) (hR : TkRow w a ts) (hn : ts.length ≤ 1048576) (hz : TksSz 1048576 ts) :
    Calls Try.prog 15 #[.slice a ts.length cap, .int .i64 x] w fun e w' => e = .returned (.string (idI ts x)) ∧ Below w.heap.size w w' := by
  have CH := hid (cThere a cap ts x w hR hn hz)
  have C := hid (fun wx (hb : Below w.heap.size w wx) => cIdsOkI a cap ts wx (hR.below hb) hn hz)
  cases hh : hasB ts x with
  | false =>
    have HE := hid (show idI ts x = ByteArray.empty by
      unfold idI
      refine if_neg (fun h => ?_)
      unfold hasB at hh
      rw [(idsB_t h.1).2, decide_eq_true h.2] at hh
      cases hh)
    rw [HE.out]
    rw [hh] at CH
    clear hh HE hR hz C
    generalize ts.length = n at *
    go_enter Try.func15, Try.ntmps15
    go_wp2_with fail
    refine CH.out.mono ?_
    rintro e w1 ⟨rfl, hb1⟩
    have HB1 := hid hb1
    clear hb1 CH
    go_wp2_with fail
    go_ret
    exact ⟨rfl, HB1.out⟩
  | true =>
    rw [hh] at CH
    obtain ⟨hT, k, rfl, hk⟩ := hasB_t hh
    cases hi : idsB ts with
    | false =>
      have HE := hid (show idI ts (k : Int) = ByteArray.empty by
        unfold idI
        refine if_neg (fun h => ?_)
        rw [hi] at h
        cases h.1)
      rw [HE.out]
      rw [hi] at C
      clear hh HE hR hz hi hT
      generalize ts.length = n at *
      go_enter Try.func15, Try.ntmps15
      go_wp2_with fail
      refine CH.out.mono ?_
      rintro e w1 ⟨rfl, hb1⟩
      have HB1 := hid hb1
      clear hb1 CH
      go_wp2_with fail
      refine (C.out _ HB1.out).mono ?_
      rintro e w2 ⟨rfl, hb2⟩
      have HB2 := hid (bb HB1.out hb2)
      clear hb2 C
      go_wp2_with fail
      go_ret
      exact ⟨rfl, HB2.out⟩
    | true =>
      have HE := hid (show idI ts (k : Int) = (idAt ts k).getD ByteArray.empty by
        unfold idI
        rw [if_pos ⟨hi, by omega, by omega⟩]
        rfl)
      rw [HE.out]
      rw [hi] at C
      have HR := hid (fun wx (hb : Below w.heap.size w wx) => ats_row (hR.below hb) hk)
      have h3 := hz _ (List.getElem_mem hk)
      have CV := hid (fun aa ca wx (hA : AtRow wx aa ts[k].attrs) => cValueInI aa ca ts[k].attrs idS wx hA h3.2.2.1 h3.2.1 (by decide))
      rw [← idAt_at hk] at CV
      have hkn : (k : Int) < (ts.length : Int) := by omega
      clear hh HE hR hz hi hT h3
      generalize idAt ts k = I at *
      generalize ts[k].attrs = L at *
      generalize ts.length = n at *
      go_enter Try.func15, Try.ntmps15
      go_wp2_with fail
      refine CH.out.mono ?_
      rintro e w1 ⟨rfl, hb1⟩
      have HB1 := hid hb1
      clear hb1 CH
      go_wp2_with fail
      refine (C.out _ HB1.out).mono ?_
      rintro e w2 ⟨rfl, hb2⟩
      have HB2 := hid (bb HB1.out hb2)
      clear hb2 C
      obtain ⟨b, o, aa, ca, rfl, c2, hA⟩ := HR.out _ HB2.out
      have CV2 := hid (CV.out aa ca _ hA)
      clear hA CV HR
      generalize L.length = na at *
      go_wp2_with fail
      refine CV2.out.mono ?_
      rintro e w3 ⟨rfl, hb3⟩
      have HB3 := hid (bb HB2.out hb3)
      clear hb3 CV2 c2
      go_wp2_with fail
      go_ret
      exact ⟨rfl, HB3.out⟩

set_option maxRecDepth 8000 in
set_option maxHeartbeats 8000000 in
theorem cAllKnownI (a : Option Addr) (cap : Nat) (ts : List Tk) (l m : ByteArray) (w : World) (hR : TkRow w a ts) (hn : ts.length ≤ 1048576) (hz : TksSz 1048576 ts) (hl : l.size ≤ 1048576) (hm : m.size ≤ 1048576) :
    Calls Try.prog 13 #[.slice a ts.length cap, .string l, .string m] w fun e w' => ∃ v, e = .returned v ∧ w'.ownsRow w.heap.size 2 1 v (allI ts l m).length (intC (allI ts l m)) ∧ Below w.heap.size w w' := by
  obtain ⟨i0, hi, hz0, hz1, hz2⟩ := info_parts info64
  have HI := hid (And.intro hi (And.intro hz0 (And.intro hz1 hz2)))
  clear hi hz0 hz1 hz2
  have C := hid (cNamesOkI a cap ts w hR hn hz)
  by_cases hN : NamesP ts
  · rw [namesB_t hN] at C
    have HE := hid (show allI ts l m = allTo ts l m ts.length by unfold allI; rw [namesB_t hN]; rfl)
    rw [HE.out]
    have CK := hid (fun (k : Nat) wx (hb : Below w.heap.size w wx) => cKnownI a cap ts (k : Int) l m wx (hR.below hb) hn hz hl hm)
    have HKN := hid (fun (k : Nat) (hk : k < ts.length) => show knownI ts (k : Int) l m = (!decide ((nameI ts k).size = 0) && knownN ts k l m) from by
      unfold knownI elemB hasB
      rw [treeB_t hN.1, decide_eq_true (show (0 : Int) ≤ (k : Int) ∧ (k : Int) < ts.length by omega)]
      rfl)
    clear hR hz HE hN
    obtain ⟨n, hnn⟩ : ∃ n, ts.length = n := ⟨_, rfl⟩
    rw [hnn] at hn C CK HKN ⊢
    clear hnn
    go_enter Try.func13, Try.ntmps13
    go_wp2_with fail
    refine C.out.mono ?_
    rintro e w1 ⟨rfl, hb1⟩
    have HB1 := hid hb1
    clear hb1 C
    go_wp2_with fail
    go_loopw [7, 14] (fun v x wr => ∃ e : Nat, x = .int .i64 (e : Int) ∧ e ≤ n ∧ Hid (wr.ownsRow w.heap.size 2 1 v (allTo ts l m e).length (intC (allTo ts l m e))) ∧ Hid (Below w.heap.size w wr)) (fun _ x _ => n - (intOf x).toNat)
    case atStart => exact ⟨0, rfl, Nat.zero_le _, World.ownsRow_nil _ _ _ _, HB1.out⟩
    case round =>
      clear HB1
      obtain ⟨e, rfl, h2, HO, HB⟩ := hrel
      by_cases hlt : e < n
      · have hin : (e : Int) < (n : Int) := by omega
        have HX := hid (allTo_next ts l m e)
        have CK1 := hid (fun wx (hb : Below w.heap.size w wx) => CK.out e wx hb)
        rw [HKN.out e hlt] at CK1
        generalize (!decide ((nameI ts e).size = 0) && knownN ts e l m) = K at *
        go_wp2_with fail
        refine (CK1.out _ HB.out).mono ?_
        rintro e1 w1 ⟨rfl, hb1⟩
        have HB1 := hid (bb HB.out hb1)
        have HO1 := hid (ownsRow_below HO.out hb1)
        clear hb1 HO HB CK1
        cases K with
        | false =>
          go_wp2_with fail
          go_roundw
          case rel => exact ⟨e + 1, by go_num, by omega, by rw [show allTo ts l m (e + 1) = allTo ts l m e by rw [HX.out]; exact List.append_nil _]; exact HO1.out, HB1.out⟩
          case measure => simp [intOf]; omega
        | true =>
          have hlen := allTo_len ts l m e
          obtain ⟨hi, hz0, hz1, hz2⟩ := HI.out
          have hsz := HB1.out.size
          have HOA := hid (HO1.out.alloc (.cells #[.int .i64 (e : Int)] 2))
          have hlen2 : (intC (allTo ts l m e)).length ≤ e := by rw [intC_len]; exact hlen
          go_wp2_with (at_builtin; refine wpList_append_own _ rfl _ _ 32 rfl w.heap.size 2 i0 (.int .i64 0) 1 8 Try.underlying32 hi hz0 hz1 hz2 rfl (by decide) _ _ _ rfl HOA.out ⟨w1.heap.size, 0, none⟩ 1 1 [.int .i64 (e : Int)] rfl rfl ?c1 ?c2 ?c3 ?c4 ?c5 ?_)
          case c1 => exact one_cell64 _ _
          case c2 => exact one_one64 _
          case c3 => unfold maxLen; omega
          case c4 => omega
          case c5 => simp; omega
          intro v' w2 hown' hgrow _
          have HO2 := hid (show w2.ownsRow w.heap.size 2 1 v' (allTo ts l m (e + 1)).length (intC (allTo ts l m (e + 1))) by rw [HX.out, intC_app, List.length_append]; exact hown')
          have HB2 := hid ((HB1.out.alloc hsz (.cells #[.int .i64 (e : Int)] 2)).grown hgrow (by simp; omega) (fun g hg => (HOA.out.lt g hg).1))
          clear hown' hgrow
          go_wp2_with fail
          go_roundw
          case rel => exact ⟨e + 1, by go_num, by omega, HO2.out, HB2.out⟩
          case measure => simp [intOf]; omega
      · have hee : e = n := by omega
        subst hee
        go_wp2_with fail
        go_ret
        exact ⟨_, rfl, HO.out, HB.out⟩
  · rw [namesB_f hN] at C
    have HE := hid (show allI ts l m = [] by unfold allI; rw [namesB_f hN]; rfl)
    rw [HE.out]
    clear hR hz HE hN
    generalize ts.length = n at *
    go_enter Try.func13, Try.ntmps13
    go_wp2_with fail
    refine C.out.mono ?_
    rintro e w1 ⟨rfl, hb1⟩
    have HB1 := hid hb1
    clear hb1 C
    go_wp2_with fail
    go_ret
    exact ⟨_, rfl, World.ownsRow_nil _ _ _ _, HB1.out⟩

end Go.Proofs.Ytbiblabmhlgnoaa

namespace Go.Proofs.Ytbiblabmhlgnoaa
open Go.RowKit
set_option linter.unusedVariables false
set_option linter.unusedSimpArgs false

/-- The three trees and the row of numbers, where they lie. -/
structure IdSt (w : World) (a1 a2 a3 al : Option Addr) (ts us vs : List Tk) (L : List Nat) (W : World) : Prop where
  one : TkRow W a1 ts
  two : TkRow W a2 us
  three : TkRow W a3 vs
  nums : IntRow W al L
  kept : Below w.heap.size w W

theorem IdSt.below {w W W1 : World} {a1 a2 a3 al : Option Addr} {ts us vs : List Tk} {L : List Nat} (h : IdSt w a1 a2 a3 al ts us vs L W) (hb : Below W.heap.size W W1) : IdSt w a1 a2 a3 al ts us vs L W1 :=
  ⟨h.one.below hb, h.two.below hb, h.three.below hb, h.nums.below hb, bb h.kept hb⟩

theorem idI_sz {ts : List Tk} {x : Int} (hz : TksSz 1048576 ts) : (idI ts x).size ≤ 1048576 := by
  unfold idI
  split
  · rename_i q
    cases hv : idAt ts x.toNat with
    | none => exact Nat.zero_le _
    | some v => exact idAt_sz hz (by omega) hv
  · exact Nat.zero_le _

set_option maxRecDepth 8000 in
set_option maxHeartbeats 16000000 in
theorem law_ids (a : Option Addr) (len cap : Nat) (w : World) (hcr : CodeRow w a len) :
    Calls Try.prog 3 #[.slice a len cap] w fun e w' => e = .returned (.bool true) ∧ Below w.heap.size w w' := by
  by_cases hl : len ≤ 4096
  case neg =>
    have CB := hid (fun wx => cBig_yes a len cap wx hl)
    clear hcr
    go_enter Try.func3, Try.ntmps3
    go_wp2_with fail
    refine (CB.out _).mono ?_
    rintro e w1 ⟨rfl, rfl⟩
    go_wp2_with fail
    go_ret
    exact ⟨rfl, Below.refl _ _⟩
  have CB := hid (fun wx => cBig_no a len cap wx hl)
  have HCR := hid hcr
  clear hcr
  go_enter Try.func3, Try.ntmps3
  go_wp2_with fail
  refine (CB.out _).mono ?_
  rintro e w1 ⟨rfl, rfl⟩
  clear CB
  go_wp2_with fail
  refine (cDrawFindId a len cap _ hl HCR.out).mono ?_
  rintro e w2 ⟨a1, c1, ts, id, rfl, hr1, hn1, hz1, hi1, hc1, hb2⟩
  have CFI := hid (fun wx (h : TkRow wx a1 ts) => cFindIdI a1 c1 ts id wx h (by omega) hz1.big hi1)
  have CFS := hid (fun wx (h : TkRow wx a1 ts) => cFindIdS a1 c1 ts id wx h (by omega) hz1.big)
  have CKI := hid (fun wx (h : TkRow wx a1 ts) => cIdsOkI a1 c1 ts wx h (by omega) hz1.big)
  have CKS := hid (fun wx (h : TkRow wx a1 ts) => cIdsOkS a1 c1 ts wx h (by omega) hz1.big)
  have CO1 := hid (fun wx (h : TkRow wx a1 ts) => cIdOfI a1 c1 ts (findI ts id) wx h (by omega) hz1.big)
  have HFO := hid (fun h : 0 ≤ findI ts id => found_id h)
  obtain ⟨F, hF⟩ : ∃ F, findI ts id = F := ⟨_, rfl⟩
  obtain ⟨K, hK⟩ : ∃ K, idsB ts = K := ⟨_, rfl⟩
  obtain ⟨O1, hO1⟩ : ∃ O, idI ts F = O := ⟨_, rfl⟩
  rw [hF] at CFI CFS CO1 HFO
  rw [hK] at CKI CKS
  rw [hO1] at CO1 HFO
  have HR2 := hid hr1
  have HB2 := hid hb2
  have HCR2 := hid (code_below HCR.out hb2)
  obtain ⟨n1, hnn1⟩ : ∃ n1, ts.length = n1 := ⟨_, rfl⟩
  rw [hnn1] at CFI CFS CKI CKS CO1 ⊢
  clear hF hK hO1 hr1 hn1 hz1 hi1 hc1 hb2 hnn1 HCR
  go_wp2_with fail
  refine (CFI.out _ HR2.out).mono ?_
  rintro e w3 ⟨rfl, hb3⟩
  have HR3 := hid (HR2.out.below hb3)
  have HB3 := hid (bb HB2.out hb3)
  have HCR3 := hid (code_below HCR2.out hb3)
  clear hb3 HR2 HB2 HCR2 CFI
  go_wp2_with fail
  refine (cDrawIdOf a len cap _ hl HCR3.out).mono ?_
  rintro e w4 ⟨a2, c2, us, x, rfl, hr2, hn2, hz2, hx, hc2, hb4⟩
  have CPI := hid (fun wx (h : TkRow wx a2 us) => cIdOfI a2 c2 us x wx h (by omega) hz2.big)
  have CPS := hid (fun wx (h : TkRow wx a2 us) => cIdOfS a2 c2 us x wx h (by omega) hz2.big)
  have HXW := hid hx
  have HOZ := hid (idI_sz (x := x) hz2.big)
  have CGI := hid (fun wx (h : TkRow wx a2 us) => cFindIdI a2 c2 us (idI us x) wx h (by omega) hz2.big HOZ.out)
  have HOF := hid (fun h : ¬ (idI us x).size = 0 => id_found h)
  obtain ⟨O, hO⟩ : ∃ O, idI us x = O := ⟨_, rfl⟩
  rw [hO] at CPI CPS CGI HOF
  obtain ⟨G, hG⟩ : ∃ G, findI us O = G := ⟨_, rfl⟩
  rw [hG] at CGI HOF
  have HR4 := hid (HR3.out.below hb4)
  have HU4 := hid hr2
  have HB4 := hid (bb HB3.out hb4)
  have HCR4 := hid (code_below HCR3.out hb4)
  obtain ⟨n2, hnn2⟩ : ∃ n2, us.length = n2 := ⟨_, rfl⟩
  rw [hnn2] at CPI CPS CGI ⊢
  clear hO hG hr2 hn2 hz2 hc2 hb4 hnn2 HR3 HB3 HCR3 hx HOZ
  go_wp2_with fail
  refine (cDrawAllKnown a len cap _ hl HCR4.out).mono ?_
  rintro e w5 ⟨a3, c3, vs, lc, mg, rfl, hr3, hn3, hz3, hlc, hmg, hc3, hb5⟩
  have CLI := hid (fun wx (h : TkRow wx a3 vs) => cAllKnownI a3 c3 vs lc mg wx h (by omega) hz3.big hlc hmg)
  have CLS := hid (fun wx (h : TkRow wx a3 vs) => cAllKnownS a3 c3 vs lc mg wx h (by omega) hz3.big)
  have CNS := hid (fun wx (h : TkRow wx a3 vs) => cNamesOkS a3 c3 vs wx h (by omega) hz3.big)
  have CQS := hid (fun (y : Int) wx (h : TkRow wx a3 vs) => cKnownS a3 c3 vs y lc mg wx h (by omega) hz3.big)
  have HAK := hid (fun (hN : namesB vs = true) (i : Nat) (hi : i < vs.length) => all_known hN lc mg hi)
  have hL11 := Nat.le_trans (allI_len vs lc mg) hn3
  obtain ⟨L, hL⟩ : ∃ L, allI vs lc mg = L := ⟨_, rfl⟩
  rw [hL] at CLI CLS HAK hL11
  have CLK := hid (fun (x y : Option Addr) (cx cy : Nat) wx (h : IntRow wx x L) (h2 : IntRow wx y L) => cLikeInts x y cx cy L wx h h2 (by omega))
  have CH := hid (fun (x : Option Addr) (cx k : Nat) wx (h : IntRow wx x L) => cHas x cx L k wx h (by omega))
  obtain ⟨NB, hNB⟩ : ∃ NB, namesB vs = NB := ⟨_, rfl⟩
  rw [hNB] at CNS HAK
  have HR5 := hid (HR4.out.below hb5)
  have HU5 := hid (HU4.out.below hb5)
  have HV5 := hid hr3
  have HB5 := hid (bb HB4.out hb5)
  have hn3' := hn3
  obtain ⟨n3, hnn3⟩ : ∃ n3, vs.length = n3 := ⟨_, rfl⟩
  rw [hnn3] at CLI CLS CNS CQS HAK hn3' ⊢
  obtain ⟨ln, hln⟩ : ∃ ln, L.length = ln := ⟨_, rfl⟩
  have HLN := hid hln
  rw [hln] at CLI CLS CLK CH
  clear hL hNB hr3 hn3 hz3 hlc hmg hc3 hb5 hnn3 HR4 HU4 HB4 HCR4 hL11 hln
  go_wp2_with fail
  refine (CLI.out _ HV5.out).mono ?_
  rintro e w6 ⟨v6, rfl, hr6, hb6⟩
  rw [← HLN.out] at hr6
  obtain ⟨al, cl, hv6, ht6⟩ := own64 hr6
  subst hv6
  have HS6 := hid (show IdSt w1 a1 a2 a3 al ts us vs L w6 from ⟨HR5.out.below hb6, HU5.out.below hb6, HV5.out.below hb6, ht6, bb HB5.out hb6⟩)
  rw [HLN.out]
  clear hr6 ht6 hb6 HR5 HU5 HV5 HB5 CLI
  have hFF : (F == F) = true := by simp
  go_wp2_with fail
  refine (CFS.out _ HS6.out.one).mono ?_
  rintro e w7 ⟨rfl, hb7⟩
  have HS7 := hid (HS6.out.below hb7)
  clear hb7 HS6 CFS
  have hOO : (O.toList == O.toList) = true := by simp
  go_wp2_with fail
  refine (CPI.out _ HS7.out.two).mono ?_
  rintro e w8 ⟨rfl, hb8⟩
  have HS8 := hid (HS7.out.below hb8)
  clear hb8 HS7
  go_wp2_with fail
  refine (CPS.out _ HS8.out.two).mono ?_
  rintro e w9 ⟨rfl, hb9⟩
  have HS9 := hid (HS8.out.below hb9)
  clear hb9 HS8 CPS
  have hKK : (K != K) = false := by cases K <;> rfl
  go_wp2_with fail
  refine (CKI.out _ HS9.out.one).mono ?_
  rintro e w10 ⟨rfl, hb10⟩
  have HS10 := hid (HS9.out.below hb10)
  clear hb10 HS9 CKI
  go_wp2_with fail
  refine (CKS.out _ HS10.out.one).mono ?_
  rintro e w11 ⟨rfl, hb11⟩
  have HS11 := hid (HS10.out.below hb11)
  clear hb11 HS10 CKS
  go_wp2_with fail
  refine (CLS.out _ HS11.out.three).mono ?_
  rintro e w12 ⟨v12, rfl, hr12, hb12⟩
  rw [← HLN.out] at hr12
  obtain ⟨am, cm, hv12, ht12⟩ := own64 hr12
  subst hv12
  have HT12 := hid ht12
  have HS12 := hid (HS11.out.below hb12)
  rw [HLN.out]
  clear hr12 ht12 hb12 HS11 CLS
  go_wp2_with fail
  refine (CLK.out _ _ _ _ _ HS12.out.nums HT12.out).mono ?_
  rintro e w13 ⟨rfl, hb13⟩
  have HS13 := hid (HS12.out.below hb13)
  clear hb13 HS12 HT12 CLK
  go_upto_region 10 with fail
  go_cut [77] from 69 to 77 (fun v wv => v = .bool false ∧ Hid (IdSt w1 a1 a2 a3 al ts us vs L wv))
  case first =>
    by_cases h0 : 0 ≤ F
    · have hd : decide (0 ≤ F) = true := decide_eq_true h0
      have hE := HFO.out h0
      subst hE
      have hII : (O1.toList == O1.toList) = true := by simp
      clear h0
      go_wp2_with fail
      refine (CO1.out _ HS13.out.one).mono ?_
      rintro e w14 ⟨rfl, hb14⟩
      have HS14 := hid (HS13.out.below hb14)
      clear hb14 HS13
      go_wp2_with fail
      go_meet
      exact ⟨rfl, HS14.out⟩
    · have hd : decide (0 ≤ F) = false := decide_eq_false h0
      clear h0
      go_wp2_with fail
      go_meet
      exact ⟨rfl, HS13.out⟩
  obtain ⟨rfl, HS14⟩ := hcut
  clear HS13 CO1 HFO
  go_wp2_with fail
  refine (CPI.out _ HS14.out.two).mono ?_
  rintro e w15 ⟨rfl, hb15⟩
  have HS15 := hid (HS14.out.below hb15)
  clear hb15 HS14 CPI
  have E := empty_is O
  go_upto_region 13 with fail
  go_cut [89] from 81 to 89 (fun v wv => v = .bool false ∧ Hid (IdSt w1 a1 a2 a3 al ts us vs L wv))
  case first =>
    by_cases h0 : O.size = 0
    · rw [decide_eq_true h0] at E
      clear h0
      go_wp2_with fail
      go_meet
      exact ⟨rfl, HS15.out⟩
    · have hE := HOF.out h0
      rw [decide_eq_false h0] at E
      subst hE
      have hGG : (G == G) = true := by simp
      clear h0
      go_wp2_with fail
      refine (CGI.out _ HS15.out.two).mono ?_
      rintro e w16 ⟨rfl, hb16⟩
      have HS16 := hid (HS15.out.below hb16)
      clear hb16 HS15
      go_wp2_with fail
      go_meet
      exact ⟨rfl, HS16.out⟩
  obtain ⟨rfl, HS16⟩ := hcut
  clear HS15 CGI HOF E
  go_wp2_with fail
  go_loopw [13] (fun v wr => ∃ i : Nat, v = .int .i64 (i : Int) ∧ i ≤ n3 ∧ Hid (IdSt w1 a1 a2 a3 al ts us vs L wr)) (fun v _ => n3 - (intOf v).toNat)
  case atStart => exact ⟨0, rfl, Nat.zero_le _, HS16.out⟩
  case round =>
    clear HS16
    obtain ⟨i, rfl, hi, HS⟩ := hrel
    by_cases hlt : i < n3
    · have hin : (i : Int) < (n3 : Int) := by omega
      go_wp2_with fail
      refine (CNS.out _ HS.out.three).mono ?_
      rintro e x1 ⟨rfl, hx1⟩
      have HX1 := hid (HS.out.below hx1)
      clear hx1 HS
      cases NB with
      | false =>
        go_wp2_with fail
        go_roundw
        case rel => exact ⟨i + 1, by go_num, by omega, HX1.out⟩
        case measure => simp [intOf]; omega
      | true =>
        have CH1 := hid (CH.out al cl i x1 HX1.out.nums)
        have CQ1 := hid (fun wx h => CQS.out (i : Int) wx h)
        rw [← HAK.out rfl i hlt] at CQ1
        obtain ⟨M, hM⟩ : ∃ M, decide (i ∈ L) = M := ⟨_, rfl⟩
        rw [hM] at CH1 CQ1
        have hMM : (M != M) = false := by cases M <;> rfl
        clear hM
        go_wp2_with fail
        refine CH1.out.mono ?_
        rintro e x2 ⟨rfl, rfl⟩
        go_wp2_with fail
        refine (CQ1.out _ HX1.out.three).mono ?_
        rintro e x3 ⟨rfl, hx3⟩
        have HX3 := hid (HX1.out.below hx3)
        clear hx3 HX1 CH1 CQ1
        go_wp2_with fail
        go_roundw
        case rel => exact ⟨i + 1, by go_num, by omega, HX3.out⟩
        case measure => simp [intOf]; omega
    · have hie : i = n3 := by omega
      subst hie
      go_wp2_with fail
      go_ret
      exact ⟨rfl, HS.out.kept⟩

end Go.Proofs.Ytbiblabmhlgnoaa
