/- Contracts of IdsOk, FindId, IdOf, AllKnown of the program. Seals in the program: contracts of parentSealed, and of what is spoken of a seal. The order of texts, lists that rise, and putting into them (mathematics alone). -/
import Derived.Test.YtkejmifkjgpdjaaGreatM29
import Derived.Test.YtkejmifkjgpdjaaGreatM28
import Derived.Test.YtkejmifkjgpdjaaGreatM18
import Derived.Test.YtkejmifkjgpdjaaGreatM15
import Derived.Test.YtkejmifkjgpdjaaGreatM22
import Derived.Deep.Cut
namespace Go.Proofs.YtkejmifkjgpdjaaGreat
open Go.RowKit
set_option linter.unusedVariables false
set_option linter.unusedSimpArgs false

theorem first_of {P : Nat → Prop} : ∀ k, (∀ j, j < k → ¬ P j) ∨ ∃ j, j < k ∧ P j ∧ ∀ i, i < j → ¬ P i
  | 0 => .inl fun j h => absurd h (Nat.not_lt_zero _)
  | k + 1 => by
    rcases first_of (P := P) k with h | ⟨j, hj, h1, h2⟩
    · by_cases q : P k
      · exact .inr ⟨k, Nat.lt_succ_self _, q, h⟩
      · refine .inl fun j hj => ?_
        rcases Nat.lt_or_eq_of_le (Nat.le_of_lt_succ hj) with h' | rfl
        · exact h j h'
        · exact q
    · exact .inr ⟨j, by omega, h1, h2⟩

/-- Who is found by an identifier that a node bears: that node, or one ahead of it that bears it too. -/
theorem find_first {ts : List Tk} {k n : Nat} {v : ByteArray} (hk : k < n) (h : idAt ts k = some v) : (findN ts v n = (k : Int) ∧ ¬ v ∈ idsTo ts k) ∨ (¬ findN ts v n = (k : Int) ∧ v ∈ idsTo ts k) := by
  rcases first_of (P := fun j => idAt ts j = some v) k with q | ⟨j, hj, h1, h2⟩
  · refine .inl ⟨findN_at hk q h, fun hm => ?_⟩
    obtain ⟨j, hj, e⟩ := mem_idsTo.1 hm
    exact q j hj e
  · refine .inr ⟨?_, mem_idsTo.2 ⟨j, hj, h1⟩⟩
    rw [findN_at (by omega) h2 h1]
    omega

set_option maxRecDepth 8000 in
set_option maxHeartbeats 8000000 in
theorem cIdsOkI (a : Option Addr) (cap : Nat) (ts : List Tk) (w : World) (hR : TkRow w a ts) (hn : ts.length ≤ 1048576) (hz : TksSz 1048576 ts) :
    Calls Tryz.prog 23 #[.slice a ts.length cap] w fun e w' => e = .returned (.bool (idsB ts)) ∧ Below w.heap.size w w' := by
  have CT := hid (cTreeOkI a cap ts w hR hn hz)
  cases ht : treeB ts with
  | false =>
    have HE := hid (show idsB ts = false by unfold idsB; rw [ht, Bool.and_false])
    rw [HE.out]
    rw [ht] at CT
    clear ht HE hR hz
    generalize ts.length = n at *
    go_enter Tryz.func23, Tryz.ntmps23
    go_wp2_with fail
    refine CT.out.mono ?_
    rintro e w1 ⟨rfl, hb1⟩
    have HB1 := hid hb1
    clear hb1 CT
    go_wp2_with fail
    go_ret
    exact ⟨rfl, HB1.out⟩
  | true =>
    have hT := treeB_p ht
    obtain ⟨V, hV⟩ : ∃ V, idsB ts = V := ⟨_, rfl⟩
    have HF : Hid (¬ IdsP ts ts.length → V = false) := fun h => by rw [← hV]; exact idsB_f h
    have HT : Hid (IdsP ts ts.length → V = true) := fun h => by rw [← hV, idsB_is h]; exact ht
    have CI := hid (fun (v : ByteArray) wx (hb : Below w.heap.size w wx) => cIdAtI a cap ts v wx (hR.below hb) hT hn hz)
    have CZ := hid (fun (k : Nat) (v : ByteArray) (hk : k < ts.length) (h : idAt ts k = some v) => idAt_sz hz hk h)
    have HR := hid hR
    have HZ := hid hz
    rw [hV]
    rw [ht] at CT
    clear hV hR hz ht hT
    obtain ⟨n, hnn⟩ : ∃ n, ts.length = n := ⟨_, rfl⟩
    have HN := hid hnn
    rw [hnn] at hn CT CI HF HT CZ ⊢
    clear hnn
    go_enter Tryz.func23, Tryz.ntmps23
    go_wp2_with fail
    refine CT.out.mono ?_
    rintro e w1 ⟨rfl, hb1⟩
    have HB1 := hid hb1
    clear hb1 CT
    go_wp2_with fail
    go_loopw [12] (fun v wr => ∃ k : Nat, v = .int .i64 (k : Int) ∧ k ≤ n ∧ Hid (IdsP ts k) ∧ Hid (Below w.heap.size w wr)) (fun v _ => n - (intOf v).toNat)
    case atStart => exact ⟨0, rfl, Nat.zero_le _, idsP_zero ts, HB1.out⟩
    case round =>
      clear HB1
      obtain ⟨k, rfl, hk, HP, HB⟩ := hrel
      by_cases hlt : k < n
      · have hkn : (k : Int) < (n : Int) := by omega
        have hks : k < ts.length := by rw [HN.out]; exact hlt
        obtain ⟨b, o, aa, ca, rfl, hb, q0, q1, q2, q3, hA⟩ := HR.out.below HB.out k hks
        have h3 := HZ.out _ (List.getElem_mem hks)
        have CV := hid (fun wx (hx : Below wr.heap.size wr wx) => cValueInI aa ca ts[k].attrs idS wx (hA.below hx) h3.2.2.1 h3.2.1 (by decide))
        rw [← idAt_at hks] at CV
        have HB2 := hid (HB.out.alloc HB.out.size (.cells #[.int .i64 ts[k].kind, .string ts[k].name, .slice aa ts[k].attrs.length ca, .string ts[k].text] 44))
        have CV2 := hid (CV.out _ ((Below.refl wr.heap.size wr).alloc (Nat.le_refl _) (.cells #[.int .i64 ts[k].kind, .string ts[k].name, .slice aa ts[k].attrs.length ca, .string ts[k].text] 44)))
        clear hA h3 CV hb
        generalize ts[k].kind = K at *
        generalize ts[k].name = NM at *
        generalize ts[k].text = TX at *
        generalize ts[k].attrs.length = na at *
        clear hks
        go_wp2_with fail
        refine CV2.out.mono ?_
        rintro e w2 ⟨rfl, hb2⟩
        have HB3 := hid (bb HB2.out hb2)
        clear hb2 CV2 HB2 q0 q1 q2 q3
        cases hv : idAt ts k with
        | none =>
          have HP2 := hid (idsP_none hv HP.out)
          clear hv
          go_wp2_with fail
          go_roundw
          case rel => exact ⟨k + 1, by go_num, by omega, HP2.out, HB3.out⟩
          case measure => simp [intOf]; omega
        | some v =>
          have HVI := hid hv
          have CO := hid (fun wx => cIdOk v wx (CZ.out k v hlt hv))
          have CA := hid (fun wx (h : Below w.heap.size w wx) => CI.out v wx h)
          have HFF := hid (find_first hlt hv)
          clear hv
          generalize findN ts v n = F at *
          cases hok : idOk v with
          | false =>
            have HW := hid (HF.out (idsP_bad HVI.out hlt (.inl hok)))
            rw [hok] at CO
            clear hok
            go_wp2_with fail
            refine (CO.out _).mono ?_
            rintro e w3 ⟨rfl, rfl⟩
            go_wp2_with fail
            go_ret
            exact ⟨by rw [HW.out]; rfl, HB3.out⟩
          | true =>
            have HOK := hid hok
            rw [hok] at CO
            clear hok
            rcases HFF.out with ⟨h1, h2⟩ | ⟨h1, h2⟩
            · have HP2 := hid (idsP_some HVI.out HP.out HOK.out h2)
              subst h1
              have e1 : ((k : Int) == (k : Int)) = true := by simp
              clear h2
              go_wp2_with fail
              refine (CO.out _).mono ?_
              rintro e w3 ⟨rfl, rfl⟩
              go_wp2_with fail
              refine (CA.out _ HB3.out).mono ?_
              rintro e w4 ⟨rfl, hb4⟩
              have HB4 := hid (bb HB3.out hb4)
              clear hb4
              go_wp2_with fail
              go_roundw
              case rel => exact ⟨k + 1, by go_num, by omega, HP2.out, HB4.out⟩
              case measure => simp [intOf]; omega
            · have HW := hid (HF.out (idsP_bad HVI.out hlt (.inr h2)))
              have e1 : (F == (k : Int)) = false := by simp; exact h1
              have e2 : (F != (k : Int)) = true := by simp; exact h1
              clear h2 h1
              go_wp2_with fail
              refine (CO.out _).mono ?_
              rintro e w3 ⟨rfl, rfl⟩
              go_wp2_with fail
              refine (CA.out _ HB3.out).mono ?_
              rintro e w4 ⟨rfl, hb4⟩
              have HB4 := hid (bb HB3.out hb4)
              clear hb4
              go_wp2_with fail
              go_ret
              exact ⟨by rw [HW.out]; rfl, HB4.out⟩
      · have hke : k = n := by omega
        subst hke
        have HW := hid (HT.out HP.out)
        go_wp2_with fail
        go_ret
        exact ⟨by rw [HW.out]; rfl, HB.out⟩

set_option maxHeartbeats 4000000 in
theorem cIdOfI (a : Option Addr) (cap : Nat) (ts : List Tk) (x : Int) (w : World) (hR : TkRow w a ts) (hn : ts.length ≤ 1048576) (hz : TksSz 1048576 ts) :
    Calls Tryz.prog 55 #[.slice a ts.length cap, .int .i64 x] w fun e w' => e = .returned (.string (idI ts x)) ∧ Below w.heap.size w w' := by
  have CH := hid (cThere a cap ts x w hR hn hz)
  have C := hid (fun wx (hb : Below w.heap.size w wx) => cIdsOkI a cap ts wx (hR.below hb) hn hz)
  cases hh : hasB ts x with
  | false =>
    have HE := hid (show idI ts x = ByteArray.empty by
      unfold idI
      refine if_neg (fun h => ?_)
      unfold hasB at hh
      rw [(idsB_t h.1).2, decide_eq_true h.2] at hh
      cases hh)
    rw [HE.out]
    rw [hh] at CH
    clear hh HE hR hz C
    generalize ts.length = n at *
    go_enter Tryz.func55, Tryz.ntmps55
    go_wp2_with fail
    refine CH.out.mono ?_
    rintro e w1 ⟨rfl, hb1⟩
    have HB1 := hid hb1
    clear hb1 CH
    go_wp2_with fail
    go_ret
    exact ⟨rfl, HB1.out⟩
  | true =>
    rw [hh] at CH
    obtain ⟨hT, k, rfl, hk⟩ := hasB_t hh
    cases hi : idsB ts with
    | false =>
      have HE := hid (show idI ts (k : Int) = ByteArray.empty by
        unfold idI
        refine if_neg (fun h => ?_)
        rw [hi] at h
        cases h.1)
      rw [HE.out]
      rw [hi] at C
      clear hh HE hR hz hi hT
      generalize ts.length = n at *
      go_enter Tryz.func55, Tryz.ntmps55
      go_wp2_with fail
      refine CH.out.mono ?_
      rintro e w1 ⟨rfl, hb1⟩
      have HB1 := hid hb1
      clear hb1 CH
      go_wp2_with fail
      refine (C.out _ HB1.out).mono ?_
      rintro e w2 ⟨rfl, hb2⟩
      have HB2 := hid (bb HB1.out hb2)
      clear hb2 C
      go_wp2_with fail
      go_ret
      exact ⟨rfl, HB2.out⟩
    | true =>
      have HE := hid (show idI ts (k : Int) = (idAt ts k).getD ByteArray.empty by
        unfold idI
        rw [if_pos ⟨hi, by omega, by omega⟩]
        rfl)
      rw [HE.out]
      rw [hi] at C
      have HR := hid (fun wx (hb : Below w.heap.size w wx) => ats_row (hR.below hb) hk)
      have h3 := hz _ (List.getElem_mem hk)
      have CV := hid (fun aa ca wx (hA : AtRow wx aa ts[k].attrs) => cValueInI aa ca ts[k].attrs idS wx hA h3.2.2.1 h3.2.1 (by decide))
      rw [← idAt_at hk] at CV
      have hkn : (k : Int) < (ts.length : Int) := by omega
      clear hh HE hR hz hi hT h3
      generalize idAt ts k = I at *
      generalize ts[k].attrs = L at *
      generalize ts.length = n at *
      go_enter Tryz.func55, Tryz.ntmps55
      go_wp2_with fail
      refine CH.out.mono ?_
      rintro e w1 ⟨rfl, hb1⟩
      have HB1 := hid hb1
      clear hb1 CH
      go_wp2_with fail
      refine (C.out _ HB1.out).mono ?_
      rintro e w2 ⟨rfl, hb2⟩
      have HB2 := hid (bb HB1.out hb2)
      clear hb2 C
      obtain ⟨b, o, aa, ca, rfl, c2, hA⟩ := HR.out _ HB2.out
      have CV2 := hid (CV.out aa ca _ hA)
      clear hA CV HR
      generalize L.length = na at *
      go_wp2_with fail
      refine CV2.out.mono ?_
      rintro e w3 ⟨rfl, hb3⟩
      have HB3 := hid (bb HB2.out hb3)
      clear hb3 CV2 c2
      go_wp2_with fail
      go_ret
      exact ⟨rfl, HB3.out⟩

end Go.Proofs.YtkejmifkjgpdjaaGreat

namespace Go.Proofs.YtkejmifkjgpdjaaGreat
open Go.RowKit
set_option linter.unusedVariables false
set_option linter.unusedSimpArgs false

/-- A seal that seals its parent. -/
noncomputable def psX (ts : List Tk) (x : Int) : Bool := sealX ts x && refersN ts x.toNat

noncomputable def wordsP (ts : List Tk) (x : Int) : Value := if psX ts x = true then wordsV (refF (atsJ ts x.toNat)) (sumF (atsJ ts x.toNat)) (sgnT (atsJ ts x.toNat)) else wordsV ⟨#[]⟩ ⟨#[]⟩ ⟨#[]⟩

theorem box_w3 (w : World) (x y z : Value) (T : TypeId) : (w.alloc (.cells #[x, y, z] T)).heap[w.heap.size]? = some (.cells #[x, y, z] T (0, 0)) := heap_alloc_new w _

set_option maxRecDepth 8000 in
set_option maxHeartbeats 8000000 in
theorem cParentSealed (a : Option Addr) (cap : Nat) (ts : List Tk) (x : Int) (w : World) (hR : TkRow w a ts) (hn : ts.length ≤ 1048576) (hz : TksSz 1048576 ts) (hT : TreeP ts) (hI : idsB ts = true) :
    Calls Tryz.prog 24 #[.slice a ts.length cap, .int .i64 x] w fun e w' => e = .returned (.tuple #[wordsP ts x, .bool (psX ts x)]) ∧ Below w.heap.size w w' := by
  have HB0 := hid ((Below.refl w.heap.size w).alloc (Nat.le_refl _) (.cells #[.string ⟨#[]⟩, .string ⟨#[]⟩, .string ⟨#[]⟩] 48))
  have M0 := hid (box_w3 w (.string ⟨#[]⟩) (.string ⟨#[]⟩) (.string ⟨#[]⟩) 48)
  have CS := hid (cSealAt a cap ts x _ (hR.below HB0.out) hn hz hT)
  have HNO := hid (fun (h : psX ts x = false) => (show wordsP ts x = wordsV ⟨#[]⟩ ⟨#[]⟩ ⟨#[]⟩ by unfold wordsP; rw [h]; rfl))
  cases hS : sealX ts x with
  | false =>
    have HV := hid (show psX ts x = false by unfold psX; rw [hS]; rfl)
    have HW := hid (show wordsX ts x = wordsV ⟨#[]⟩ ⟨#[]⟩ ⟨#[]⟩ by unfold wordsX; rw [hS]; rfl)
    rw [hS, HW.out] at CS
    rw [HNO.out HV.out, HV.out]
    unfold wordsV at CS ⊢
    clear HV HNO HW hR hz hS hT hI
    generalize ts.length = n at *
    go_enter Tryz.func24, Tryz.ntmps24
    go_wp2_with fail
    refine CS.out.mono ?_
    rintro e w1 ⟨rfl, hb1⟩
    have HB1 := hid (bb HB0.out hb1)
    have M1 := hid (blk_below M0.out hb1)
    have HBX := hid ((Below.refl w1.heap.size w1).alloc (Nat.le_refl _) (.cells #[.string ⟨#[]⟩, .string ⟨#[]⟩, .string ⟨#[]⟩] 48))
    obtain ⟨⟨y0, y1, y2⟩, f0, f1, f2⟩ := box3e (blk_below M1.out HBX.out)
    have HB2 := hid (bb HB1.out HBX.out)
    clear hb1 CS M0 HB0 M1 HBX HB1
    go_wp2_with fail
    go_quiet (fail)
    go_wp2_with fail
    refine bodyPost_ret (v := .tuple #[.agg #[.string ⟨#[]⟩, .string ⟨#[]⟩, .string ⟨#[]⟩], .bool false]) (by simp [results, Tryz.results24, go_sem, y0, y1, y2]) rfl ⟨rfl, ?_⟩
    iterate 3 refine Below.setCell ?_ (show w.heap.size ≤ w.heap.size from Nat.le_refl _) _
    exact below_drewN HB2.out _
  | true =>
    obtain ⟨k, rfl, hk⟩ : ∃ k : Nat, x = k ∧ k < ts.length := by
      unfold sealX at hS
      rw [Bool.and_eq_true, decide_eq_true_eq] at hS
      exact ⟨x.toNat, by omega, by omega⟩
    have HW := hid (show wordsX ts (k : Int) = wordsV (refF (atsJ ts k)) (sumF (atsJ ts k)) (sgnT (atsJ ts k)) by unfold wordsX; rw [hS]; rfl)
    have HP := hid (show psX ts (k : Int) = (!decide ((refF (atsJ ts k)).size = 0) && decide (idI ts (parI ts k) = refF (atsJ ts k))) by unfold psX; rw [hS, Bool.true_and]; exact refers_is hI hT hk)
    have HT : Hid (psX ts (k : Int) = true → wordsP ts (k : Int) = wordsV (refF (atsJ ts k)) (sumF (atsJ ts k)) (sgnT (atsJ ts k))) := fun h => by unfold wordsP; rw [h]; rfl
    rw [hS, HW.out] at CS
    unfold wordsV at CS
    have CI := hid (fun wx (hb : Below w.heap.size w wx) => cIdOfI a cap ts (parI ts k) wx (hR.below hb) hn hz)
    obtain ⟨b, o, ea, -, -⟩ := hR.kindAt k hk
    subst ea
    have HK := hid (fun wx (hb : Below w.heap.size w wx) => (show wx.cell? ⟨b, o + k * 4, none⟩ = some (.int .i64 (parI ts k)) by
      obtain ⟨b', o', e', c0, -⟩ := (hR.below hb).kindAt k hk
      cases e'
      exact c0))
    have hkn : (k : Int) < (ts.length : Int) := by omega
    have E1 := empty_is (refF (atsJ ts k))
    have E2 := str_beq (idI ts (parI ts k)) (refF (atsJ ts k))
    clear HW hR hz hS hT hI
    generalize wordsP ts (k : Int) = WV at *
    generalize psX ts (k : Int) = PV at *
    generalize ts.length = n at *
    generalize idI ts (parI ts k) = I at *
    generalize parI ts k = P at *
    generalize refF (atsJ ts k) = R at *
    generalize sumF (atsJ ts k) = S at *
    generalize sgnT (atsJ ts k) = G at *
    generalize decide (R.size = 0) = Q at *
    generalize decide (I = R) = D at *
    cases Q with
    | true =>
      have HV := hid (show PV = false from HP.out)
      rw [HNO.out HV.out, HV.out]
      unfold wordsV
      clear HV HNO HP HT CI HK E2
      go_enter Tryz.func24, Tryz.ntmps24
      go_wp2_with fail
      refine CS.out.mono ?_
      rintro e w1 ⟨rfl, hb1⟩
      have HB1 := hid (bb HB0.out hb1)
      have M1 := hid (blk_below M0.out hb1)
      have HBX := hid ((Below.refl w1.heap.size w1).alloc (Nat.le_refl _) (.cells #[.string R, .string S, .string G] 48))
      obtain ⟨⟨y0, y1, y2⟩, f0, f1, f2⟩ := box3e (blk_below M1.out HBX.out)
      obtain ⟨z0, z1, z2⟩ := (box3e (box_w3 w1 (.string R) (.string S) (.string G) 48)).1
      have HB2 := hid (bb HB1.out HBX.out)
      clear hb1 CS M0 HB0 M1 HBX HB1
      go_wp2_with fail
      go_quiet (fail)
      go_wp2_with fail
      refine bodyPost_ret (v := .tuple #[.agg #[.string ⟨#[]⟩, .string ⟨#[]⟩, .string ⟨#[]⟩], .bool false]) (by simp [results, Tryz.results24, go_sem, y0, y1, y2]) rfl ⟨rfl, ?_⟩
      iterate 3 refine Below.setCell ?_ (show w.heap.size ≤ w.heap.size from Nat.le_refl _) _
      exact below_drewN HB2.out _
    | false =>
      have HPD := hid (show PV = D from HP.out)
      clear HP
      go_enter Tryz.func24, Tryz.ntmps24
      go_wp2_with fail
      refine CS.out.mono ?_
      rintro e w1 ⟨rfl, hb1⟩
      obtain ⟨wB, hwB⟩ : ∃ wB, w1.alloc (.cells #[.string R, .string S, .string G] 48) = wB := ⟨_, rfl⟩
      have hbX : Below w1.heap.size w1 wB := by rw [← hwB]; exact (Below.refl w1.heap.size w1).alloc (Nat.le_refl _) _
      have HB2 := hid (bb (bb HB0.out hb1) hbX)
      have M2 := hid (blk_below (blk_below M0.out hb1) hbX)
      have M3 := hid (show wB.heap[w1.heap.size]? = some (.cells #[.string R, .string S, .string G] 48 (0, 0)) by rw [← hwB]; exact box_w3 w1 _ _ _ _)
      have HNB := hid (bw_any wB)
      have CP := hid (fun p : BW wB => CI.out p.w (bb HB2.out p.h))
      have d0 : ∀ p : BW wB, p.w.cell? ⟨w1.heap.size, 0, none⟩ = some (.string R) := fun p => (box3e (blk_below M3.out p.h)).1.1
      have c0 : ∀ p : BW wB, p.w.cell? ⟨b, o + k * 4, none⟩ = some (.int .i64 P) := fun p => HK.out _ (bb HB2.out p.h)
      clear hb1 CS M0 HB0 CI HK hbX
      go_wp2_with fail
      haveI := HNB.out
      refine wp_region_below (by kernel_rfl) (by kernel_rfl) (Below.refl wB.heap.size wB) ?_
      repeat (go_big_quiet_step ((go_at_call 55; exact calls_bw _ (CP.out _))))
      refine wpQuiet_nil ?_
      intro w2 hw'
      obtain ⟨⟨wx, hb2⟩, hw''⟩ := hw'
      subst hw''
      have HB3 := hid (bb HB2.out hb2)
      obtain ⟨⟨y0, y1, y2⟩, f0, f1, f2⟩ := box3e (blk_below M2.out hb2)
      obtain ⟨z0, z1, z2⟩ := (box3e (blk_below M3.out hb2)).1
      clear hb2 this HNB M2 M3 HB2 CP d0 c0 hwB
      cases D with
      | false =>
        have HV := hid (show PV = false from HPD.out)
        have HE := hid (show (.tuple #[WV, .bool PV] : Value) = .tuple #[.agg #[.string ⟨#[]⟩, .string ⟨#[]⟩, .string ⟨#[]⟩], .bool false] by rw [HNO.out HV.out, HV.out]; rfl)
        clear HV HNO HT HPD
        go_wp2_with fail
        refine bodyPost_ret (v := .tuple #[.agg #[.string ⟨#[]⟩, .string ⟨#[]⟩, .string ⟨#[]⟩], .bool false]) (by simp [results, Tryz.results24, go_sem, y0, y1, y2]) rfl ⟨by rw [HE.out], ?_⟩
        iterate 3 refine Below.setCell ?_ (show w.heap.size ≤ w.heap.size from Nat.le_refl _) _
        exact HB3.out
      | true =>
        have HV := hid (show PV = true from HPD.out)
        have HE := hid (show (.tuple #[WV, .bool PV] : Value) = .tuple #[.agg #[.string R, .string S, .string G], .bool true] by rw [HT.out HV.out, HV.out]; rfl)
        clear HV HNO HT HPD
        go_wp2_with fail
        refine bodyPost_ret (v := .tuple #[.agg #[.string R, .string S, .string G], .bool true]) (by simp [results, Tryz.results24, go_sem, y0, y1, y2]) rfl ⟨by rw [HE.out], ?_⟩
        iterate 3 refine Below.setCell ?_ (show w.heap.size ≤ w.heap.size from Nat.le_refl _) _
        exact HB3.out

set_option maxHeartbeats 2000000 in
theorem cWordsSpoken (r s g : ByteArray) (w : World) (hr : r.size ≤ 1048576) (hs : s.size ≤ 1048576) :
    Calls Tryz.prog 26 #[.agg #[.string r, .string s, .string g]] w fun x w' => x = .returned (.string (spokenF r s)) ∧ Below w.heap.size w w' := by
  have HB0 := hid ((Below.refl w.heap.size w).alloc (Nat.le_refl _) (.cells #[.string r, .string s, .string g] 48))
  obtain ⟨z0, z1, z2⟩ := (box3e (box_w3 w (.string r) (.string s) (.string g) 48)).1
  have C := hid (fun wx => cSpokenI r s wx hr hs)
  clear hr hs
  generalize spokenF r s = V at *
  go_enter Tryz.func26, Tryz.ntmps26
  go_wp2_with fail
  refine (C.out _).mono ?_
  rintro x w1 ⟨rfl, hb1⟩
  have HB1 := hid (bb HB0.out hb1)
  clear hb1 C
  go_wp2_with fail
  go_ret
  exact ⟨rfl, HB1.out⟩

end Go.Proofs.YtkejmifkjgpdjaaGreat

namespace Go.Proofs.YtkejmifkjgpdjaaGreat
open Go.RowKit
set_option linter.unusedVariables false

theorem bl_irr : ∀ x : List UInt8, Op.bytesLess x x = false
  | [] => rfl
  | a :: x => by
    unfold Op.bytesLess
    rw [bl_irr x]
    simp

theorem bl_trans : ∀ x y z : List UInt8, Op.bytesLess x y = true → Op.bytesLess y z = true → Op.bytesLess x z = true
  | [], [], _, h, _ => by simp [Op.bytesLess] at h
  | [], _ :: _, [], _, h => by simp [Op.bytesLess] at h
  | [], _ :: _, _ :: _, _, _ => by simp [Op.bytesLess]
  | _ :: _, [], _, h, _ => by simp [Op.bytesLess] at h
  | _ :: _, _ :: _, [], _, h => by simp [Op.bytesLess] at h
  | a :: x, b :: y, c :: z, h, g => by
    unfold Op.bytesLess at h g ⊢
    simp only [Bool.or_eq_true, decide_eq_true_eq, Bool.and_eq_true, beq_iff_eq] at h g ⊢
    rcases h with h | ⟨rfl, h⟩
    · rcases g with g | ⟨rfl, g⟩
      · exact .inl (UInt8.lt_trans h g)
      · exact .inl h
    · rcases g with g | ⟨rfl, g⟩
      · exact .inl g
      · exact .inr ⟨rfl, bl_trans x y z h g⟩

theorem bl_tri : ∀ x y : List UInt8, Op.bytesLess x y = false → Op.bytesLess y x = false → x = y
  | [], [], _, _ => rfl
  | [], _ :: _, h, _ => by simp [Op.bytesLess] at h
  | _ :: _, [], _, h => by simp [Op.bytesLess] at h
  | a :: x, b :: y, h, g => by
    unfold Op.bytesLess at h g
    simp only [Bool.or_eq_false_iff, decide_eq_false_iff_not, Bool.and_eq_false_iff, beq_eq_false_iff_ne] at h g
    have e : a = b := by
      have h1 := UInt8.not_lt.1 h.1
      have h2 := UInt8.not_lt.1 g.1
      exact UInt8.le_antisymm h2 h1
    subst e
    have h3 : Op.bytesLess x y = false := h.2.resolve_left (fun q => q rfl)
    have g3 : Op.bytesLess y x = false := g.2.resolve_left (fun q => q rfl)
    rw [bl_tri x y h3 g3]

theorem ltB_irr (x : ByteArray) : ltB x x = false := bl_irr _

theorem ltB_trans {x y z : ByteArray} (h : ltB x y = true) (g : ltB y z = true) : ltB x z = true := bl_trans _ _ _ h g

theorem ltB_tri {x y : ByteArray} (h : ltB x y = false) (g : ltB y x = false) : x = y := by
  have e := bl_tri _ _ h g
  have := str_beq x y
  rw [e] at this
  simpa using this.symm

/-- What an order must be. -/
structure OrdB {α : Type} (lt : α → α → Bool) : Prop where
  asym : ∀ x y, lt x y = true → lt y x = false
  neg : ∀ x y z, lt x y = false → lt y z = false → lt x z = false

theorem OrdB.of {α : Type} {lt : α → α → Bool} (hi : ∀ x, lt x x = false) (ht : ∀ x y z, lt x y = true → lt y z = true → lt x z = true) (hn : ∀ x y, lt x y = false → lt y x = false → ∀ z, lt x z = lt y z) : OrdB lt := by
  refine ⟨fun x y h => ?_, fun x y z h g => ?_⟩
  · cases q : lt y x with
    | false => rfl
    | true => have := ht x y x h q; rw [hi] at this; cases this
  · cases q : lt x z with
    | false => rfl
    | true =>
      cases r : lt y x with
      | true => have := ht y x z r q; rw [g] at this; cases this
      | false => rw [hn x y h r z, g] at q; cases q

theorem ltB_ord : OrdB ltB := OrdB.of ltB_irr (fun _ _ _ => ltB_trans) (fun x y h g z => by rw [ltB_tri h g])

theorem ahead_ord (ts : List Tk) (k : Nat) : OrdB (aheadF ts k) := by
  refine OrdB.of (fun x => ?_) (fun x y z h g => ?_) (fun x y h g z => ?_)
  · unfold aheadF; rw [ltB_irr, ltB_irr]; simp
  · unfold aheadF at h g ⊢
    simp only [Bool.or_eq_true, Bool.and_eq_true, decide_eq_true_eq] at h g ⊢
    rcases h with h | ⟨h1, h2⟩
    · rcases g with g | ⟨g1, g2⟩
      · exact .inl (ltB_trans h g)
      · rw [← g1]; exact .inl h
    · rcases g with g | ⟨g1, g2⟩
      · rw [h1]; exact .inl g
      · exact .inr ⟨h1.trans g1, ltB_trans h2 g2⟩
  · unfold aheadF at h g
    simp only [Bool.or_eq_false_iff, Bool.and_eq_false_iff, decide_eq_false_iff_not] at h g
    have e1 := ltB_tri h.1 g.1
    have e2 := ltB_tri (h.2.resolve_left (fun q => q e1)) (g.2.resolve_left (fun q => q e1.symm))
    unfold aheadF
    rw [e1, e2]

/-- It rises. -/
def RisesB {α : Type} (lt : α → α → Bool) (l : List α) : Prop := l.Pairwise fun a b => lt b a = false

/-- Put behind all that it is not ahead of. -/
def insG {α : Type} (lt : α → α → Bool) (l : List α) (x : α) : List α := l.take (l.takeWhile fun y => !lt x y).length ++ x :: l.drop (l.takeWhile fun y => !lt x y).length

def sortG {α : Type} (lt : α → α → Bool) (l : List α) : List α := l.foldl (insG lt) []

theorem tw_split {α : Type} {p : α → Bool} {P Q : List α} (h1 : ∀ y ∈ P, p y = true) (h2 : ∀ y ∈ Q.head?, p y = false) : (P ++ Q).takeWhile p = P := by
  induction P with
  | nil =>
    cases Q with
    | nil => rfl
    | cons q Q => rw [List.nil_append, List.takeWhile_cons, if_neg (by rw [h2 q rfl]; exact Bool.false_ne_true)]
  | cons x P ih =>
    rw [List.cons_append, List.takeWhile_cons, if_pos (h1 x (by simp)), ih (fun y hy => h1 y (by simp [hy]))]

theorem tw_mem {α : Type} {p : α → Bool} : ∀ {l : List α} {y : α}, y ∈ l.takeWhile p → p y = true
  | [], y, h => absurd h List.not_mem_nil
  | x :: l, y, h => by
    rw [List.takeWhile_cons] at h
    split at h
    · rename_i hx
      rcases List.mem_cons.1 h with rfl | h
      · exact hx
      · exact tw_mem h
    · exact absurd h List.not_mem_nil

theorem ins_low {α : Type} {lt : α → α → Bool} (ho : OrdB lt) {P : List α} {x : α} (hs : RisesB lt P) (hp : ∀ y ∈ P.getLast?, lt x y = false) : ∀ y ∈ P, lt x y = false := by
  intro y hy
  rcases List.eq_nil_or_concat P with rfl | ⟨P', z, rfl⟩
  · exact absurd hy List.not_mem_nil
  · rw [List.concat_eq_append] at *
    have hz : lt x z = false := hp z (by simp)
    rcases List.mem_append.1 hy with h | h
    · exact ho.neg _ _ _ hz ((List.pairwise_append.1 hs).2.2 y h z (by simp))
    · rw [List.mem_singleton.1 h]; exact hz

/-- Where the walk from behind stops. -/
theorem ins_stop {α : Type} {lt : α → α → Bool} (ho : OrdB lt) {P Q : List α} {x : α} (hs : RisesB lt (P ++ Q)) (hq : ∀ q ∈ Q, lt x q = true) (hp : ∀ y ∈ P.getLast?, lt x y = false) : insG lt (P ++ Q) x = P ++ x :: Q := by
  have hP : ∀ y ∈ P, lt x y = false := ins_low ho (List.pairwise_append.1 hs).1 hp
  have e : (P ++ Q).takeWhile (fun y => !lt x y) = P := tw_split (fun y hy => by rw [hP y hy]; rfl) (fun y hy => by
    rw [hq y (List.mem_of_mem_head? hy)]; rfl)
  unfold insG
  rw [e, List.take_left' rfl, List.drop_left' rfl]

theorem ins_parts {α : Type} (lt : α → α → Bool) (l : List α) (x : α) : ∃ P Q, l = P ++ Q ∧ insG lt l x = P ++ x :: Q ∧ (∀ y ∈ P, lt x y = false) ∧ ∀ y ∈ Q.head?, lt x y = true := by
  refine ⟨_, _, (List.take_append_drop _ l).symm, rfl, fun y hy => ?_, fun y hy => ?_⟩
  · have h1 : l.take (l.takeWhile fun y => !lt x y).length = l.takeWhile fun y => !lt x y := by
      conv => lhs; rw [← List.takeWhile_append_dropWhile (p := fun y => !lt x y) (l := l)]
      rw [List.take_left' (by rw [List.takeWhile_append_dropWhile])]
    rw [h1] at hy
    have := tw_mem hy
    simpa using this
  · have h1 : l.drop (l.takeWhile fun y => !lt x y).length = l.dropWhile fun y => !lt x y := by
      conv => lhs; rw [← List.takeWhile_append_dropWhile (p := fun y => !lt x y) (l := l)]
      rw [List.drop_left' (by rw [List.takeWhile_append_dropWhile])]
    rw [h1] at hy
    have := List.head?_dropWhile_not (fun y => !lt x y) l
    rw [hy] at this
    simpa using this

theorem ins_rises {α : Type} {lt : α → α → Bool} (ho : OrdB lt) {l : List α} (hs : RisesB lt l) (x : α) : RisesB lt (insG lt l x) := by
  obtain ⟨P, Q, rfl, e, h1, h2⟩ := ins_parts lt l x
  rw [e]
  obtain ⟨a, b, c⟩ := List.pairwise_append.1 hs
  have hq : ∀ q ∈ Q, lt q x = false := by
    cases Q with
    | nil => exact fun q hq => absurd hq List.not_mem_nil
    | cons z Q =>
      have hz := ho.asym _ _ (h2 z rfl)
      intro q hq
      rcases List.mem_cons.1 hq with rfl | hq
      · exact hz
      · exact ho.neg _ _ _ ((List.pairwise_cons.1 b).1 q hq) hz
  refine List.pairwise_append.2 ⟨a, List.pairwise_cons.2 ⟨hq, b⟩, fun p hp z hz => ?_⟩
  rcases List.mem_cons.1 hz with rfl | hz
  · exact h1 p hp
  · exact c p hp z hz

theorem ins_mem {α : Type} {lt : α → α → Bool} {l : List α} {x y : α} : y ∈ insG lt l x ↔ y = x ∨ y ∈ l := by
  obtain ⟨P, Q, rfl, e, _, _⟩ := ins_parts lt l x
  rw [e]
  simp only [List.mem_append, List.mem_cons]
  constructor
  · rintro (h | h | h)
    · exact .inr (.inl h)
    · exact .inl h
    · exact .inr (.inr h)
  · rintro (h | h | h)
    · exact .inr (.inl h)
    · exact .inl h
    · exact .inr (.inr h)

theorem ins_len {α : Type} (lt : α → α → Bool) (l : List α) (x : α) : (insG lt l x).length = l.length + 1 := by
  obtain ⟨P, Q, rfl, e, _, _⟩ := ins_parts lt l x
  rw [e]
  simp only [List.length_append, List.length_cons]
  omega

theorem sort_all {α : Type} {lt : α → α → Bool} (ho : OrdB lt) (l : List α) : RisesB lt (sortG lt l) ∧ (sortG lt l).length = l.length ∧ ∀ y, y ∈ sortG lt l ↔ y ∈ l := by
  unfold sortG
  have key : ∀ (l m : List α), RisesB lt m → RisesB lt (l.foldl (insG lt) m) ∧ (l.foldl (insG lt) m).length = m.length + l.length ∧ ∀ y, y ∈ l.foldl (insG lt) m ↔ y ∈ m ∨ y ∈ l := by
    intro l
    induction l with
    | nil => intro m hm; exact ⟨hm, rfl, fun y => by simp⟩
    | cons x l ih =>
      intro m hm
      obtain ⟨a, b, c⟩ := ih (insG lt m x) (ins_rises ho hm x)
      rw [List.foldl_cons, List.length_cons]
      refine ⟨a, by rw [b, ins_len]; omega, fun y => ?_⟩
      rw [c, ins_mem, List.mem_cons]
      constructor
      · rintro ((h | h) | h)
        · exact .inr (.inl h)
        · exact .inl h
        · exact .inr (.inr h)
      · rintro (h | h | h)
        · exact .inl (.inr h)
        · exact .inl (.inl h)
        · exact .inr h
  obtain ⟨a, b, c⟩ := key l [] List.Pairwise.nil
  exact ⟨a, by simpa using b, fun y => by rw [c]; simp⟩

theorem sort_next {α : Type} (lt : α → α → Bool) {l : List α} {i : Nat} (h : i < l.length) : sortG lt (l.take (i + 1)) = insG lt (sortG lt (l.take i)) l[i] := by
  unfold sortG
  rw [take_snocN h, List.foldl_append]
  rfl

/-- Strictly. -/
def StrictB (l : List ByteArray) : Prop := l.Pairwise fun a b => ltB a b = true

theorem strict_same : ∀ {l m : List ByteArray}, StrictB l → StrictB m → (∀ y, y ∈ l ↔ y ∈ m) → l = m
  | [], [], _, _, _ => rfl
  | [], y :: m, _, _, h => absurd ((h y).2 (by simp)) List.not_mem_nil
  | x :: l, [], _, _, h => absurd ((h x).1 (by simp)) List.not_mem_nil
  | x :: l, y :: m, hl, hm, h => by
    obtain ⟨a, b⟩ := List.pairwise_cons.1 hl
    obtain ⟨c, d⟩ := List.pairwise_cons.1 hm
    have no : ∀ z, ltB z z = true → False := fun z hz => by rw [ltB_irr] at hz; cases hz
    have e : x = y := by
      rcases List.mem_cons.1 ((h x).1 (by simp)) with q | q
      · exact q
      · rcases List.mem_cons.1 ((h y).2 (by simp)) with r | r
        · exact r.symm
        · exact (no _ (ltB_trans (a y r) (c x q))).elim
    subst e
    rw [strict_same b d (fun z => ?_)]
    constructor
    · intro hz
      rcases List.mem_cons.1 ((h z).1 (by simp [hz])) with q | q
      · subst q; exact (no _ (a z hz)).elim
      · exact q
    · intro hz
      rcases List.mem_cons.1 ((h z).2 (by simp [hz])) with q | q
      · subst q; exact (no _ (c z hz)).elim
      · exact q

theorem put_parts (l : List ByteArray) (s : ByteArray) (hl : StrictB l) : StrictB (putS l s) ∧ ∀ y, y ∈ putS l s ↔ y ∈ l ∨ y = s := by
  have hP : ∀ y ∈ l.take (lowN l s), ltB y s = true := fun y hy => by
    have h1 : l.take (l.takeWhile fun x => ltB x s).length = l.takeWhile fun x => ltB x s := by
      conv => lhs; rw [← List.takeWhile_append_dropWhile (p := fun x => ltB x s) (l := l)]
      rw [List.take_left' (by rw [List.takeWhile_append_dropWhile])]
    unfold lowN at hy
    rw [h1] at hy
    exact tw_mem (p := fun x => ltB x s) hy
  unfold putS
  split
  · rename_i h
    exact ⟨hl, fun y => ⟨.inl, fun q => q.elim id fun e => by rw [e]; exact List.mem_of_getElem? h⟩⟩
  · rename_i h
    have hs := hl
    rw [← List.take_append_drop (lowN l s) l] at hs
    obtain ⟨a, b, c⟩ := List.pairwise_append.1 hs
    have hq : ∀ q ∈ l.drop (lowN l s), ltB s q = true := by
      cases hd : l.drop (lowN l s) with
      | nil => exact fun q hq => absurd hq List.not_mem_nil
      | cons z Q =>
        have hlt : lowN l s < l.length := by
          apply Classical.byContradiction
          intro hn
          rw [List.drop_of_length_le (by omega)] at hd
          cases hd
        have hz : l[lowN l s] = z := by
          have := List.drop_eq_getElem_cons hlt
          rw [hd] at this
          exact (List.cons.inj this).1.symm
        have h1 : ltB z s = false := by rw [← hz]; exact tw_at (p := fun x => ltB x s) (l := l) hlt
        have h2 : ltB s z = true := by
          cases q : ltB s z with
          | true => rfl
          | false =>
            refine absurd ?_ h
            rw [List.getElem?_eq_getElem hlt, hz, ltB_tri h1 q]
        rw [hd] at b
        intro q hq
        rcases List.mem_cons.1 hq with rfl | hq
        · exact h2
        · exact ltB_trans h2 ((List.pairwise_cons.1 b).1 q hq)
    refine ⟨List.pairwise_append.2 ⟨a, List.pairwise_cons.2 ⟨hq, b⟩, fun p hp z hz => ?_⟩, fun y => ?_⟩
    · rcases List.mem_cons.1 hz with rfl | hz
      · exact hP p hp
      · exact c p hp z hz
    · rw [List.mem_append, List.mem_cons]
      conv => rhs; rw [← List.take_append_drop (lowN l s) l]
      rw [List.mem_append]
      constructor
      · rintro (q | q | q)
        · exact .inl (.inl q)
        · exact .inr q
        · exact .inl (.inr q)
      · rintro ((q | q) | q)
        · exact .inl q
        · exact .inr (.inr q)
        · exact .inr (.inl q)

/-- The same one beside the same one, once. -/
def compG : List ByteArray → List ByteArray
  | [] => []
  | [x] => [x]
  | x :: y :: l => open Classical in if x = y then compG (y :: l) else x :: compG (y :: l)

end Go.Proofs.YtkejmifkjgpdjaaGreat
