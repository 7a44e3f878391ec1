/- The heap of rows: Pop. The heap of rows: down. container/heap.Push over the rows. -/
import Derived.Test.YtgdfeicojgnoaaaGreatDoorM38
import Derived.Deep.Cut
import Derived.Deep.CutRange
namespace Go.Proofs.YtgdfeicojgnoaaaGreatDoor
open Go.RowKit
set_option linter.unusedVariables false
set_option linter.unusedSimpArgs false

theorem Wt.cap {w : World} {B R g c : Nat} {l : List Ro} (h : Wt w B R g c l) : l.length ≤ c := by
  rcases h.own.2 with ⟨e1, _⟩ | ⟨g2, cp, cur, e1, k1, k2, k3, k4, k5, k6⟩
  · cases e1
  · cases e1
    exact k3

theorem roC_cut (l : List Ro) (n : Nat) : (roC l).take (n * 2) = roC (l.take n) := by
  have e : roC l = roC (l.take n) ++ roC (l.drop n) := by rw [← roC_app, List.take_append_drop]
  rcases Nat.lt_or_ge n l.length with h | h
  · rw [e, List.take_append_of_le_length (by rw [roC_len, List.length_take]; omega), List.take_of_length_le (by rw [roC_len, List.length_take]; omega)]
  · rw [List.take_of_length_le (by rw [roC_len]; omega), List.take_of_length_le h]

theorem own_cut {w : World} {B g c n : Nat} {l : List Ro} (h : w.ownsRow B 83 2 (.slice (some ⟨g, 0, none⟩) l.length c) l.length (roC l)) (hl : l.length = n + 1) : w.ownsRow B 83 2 (.slice (some ⟨g, 0, none⟩) n c) n (roC (l.take n)) := by
  rcases h.2 with ⟨e1, _⟩ | ⟨g2, cp, cur, e1, k1, k2, k3, k4, k5, k6⟩
  · cases e1
  · cases e1
    refine ⟨by rw [roC_len, List.length_take]; congr 1; omega, .inr ⟨g, c, cur, rfl, k1, k2, by omega, k4, k5, ?_⟩⟩
    rw [← roC_cut, ← k6, List.take_take]
    congr 1
    omega

set_option maxRecDepth 8000 in
set_option maxHeartbeats 4000000 in
theorem cWPop (B R g c n : Nat) (l : List Ro) (w : World) (hW : Wt w B R g c l) (hl : l.length = n + 1) (hRB : R < B) (hB : B ≤ w.heap.size) (hn : l.length ≤ 100000) :
    Calls Tryz.prog 190 #[.pointer (some ⟨R, 0, none⟩)] w fun e w' => ∃ v : Value, e = .returned v ∧ Wt w' B R g c (l.take n) ∧ Below R w w' := by
  have hc := hW.cap
  have HO := hid (own_cut hW.own hl)
  have HLN := hid (show (l.take n).length = n by rw [List.length_take]; omega)
  obtain ⟨b, o, e0, hb, c1, c2⟩ := hW.row n (by omega)
  cases e0
  rw [Nat.zero_add] at c1 c2
  generalize (l[n]'(by omega)).id = x at *
  generalize (l[n]'(by omega)).til = y at *
  have HBX := hid hW.box
  have hne := hW.ne
  have q0 := u_box1c hW.box
  have q1 := u_box1f hW.box
  rw [hl] at hc q0 HBX
  have e1 : ((n + 1 : Nat) : Int) = (n : Int) + 1 := rfl
  have hw1 : IntKind.i64.wrap (n : Int) = (n : Int) := IntWalk.i64_in _ (by omega)
  have h1 : (n : Int) < (n : Int) + 1 := by omega
  have HB0 := hid ((Below.refl w.heap.size w).alloc (Nat.le_refl _) (.cells #[.string x, .int .i64 y] 83))
  have q2 := u_box1c (u_blk_below HBX.out HB0.out)
  have q3 := u_box1f (u_blk_below HBX.out HB0.out)
  go_enter Tryz.func190, Tryz.ntmps190
  go_wp2_with fail
  have HF := hid (show Wt ((w.alloc (.cells #[.string x, .int .i64 y] 83)).setCell ⟨R, 0, none⟩ (.slice (some ⟨g, 0, none⟩) n c)) B R g c (l.take n) ∧ Below R w ((w.alloc (.cells #[.string x, .int .i64 y] 83)).setCell ⟨R, 0, none⟩ (.slice (some ⟨g, 0, none⟩) n c)) from by
    refine ⟨⟨?_, ?_⟩, (HB0.out.mono (by omega)).setCell (Nat.le_refl R) _⟩
    · rw [HLN.out]
      exact set0_heap (u_blk_below HBX.out HB0.out)
    · rw [HLN.out]
      exact u_own_set (ownsRow_below HO.out HB0.out) (fun e => hne (Option.some.inj e)) _ _)
  go_ret
  first | exact HF.out | exact ⟨_, rfl, HF.out⟩ | exact ⟨⟨_, rfl⟩, HF.out⟩

end Go.Proofs.YtgdfeicojgnoaaaGreatDoor

namespace Go.Proofs.YtgdfeicojgnoaaaGreatDoor
open Go.RowKit
set_option linter.unusedVariables false
set_option linter.unusedSimpArgs false

theorem swR_o {l : List Ro} {i j k : Nat} (hi : i < l.length) (hj : j < l.length) (h1 : ¬ k = i) (h2 : ¬ k = j) : (swR l i j hi hj)[k]? = l[k]? := by
  by_cases h : k < l.length
  · rw [List.getElem?_eq_getElem h, List.getElem?_eq_getElem (by rw [swR_len]; exact h), swR_get, if_neg h1, if_neg h2]
  · have e1 : l[k]? = none := List.getElem?_eq_none (by omega)
    have e2 : (swR l i j hi hj)[k]? = none := List.getElem?_eq_none (by rw [swR_len]; omega)
    rw [e1, e2]

set_option maxRecDepth 8000 in
set_option maxHeartbeats 4000000 in
theorem cDown (B R g c n : Nat) (l : List Ro) (w : World) (hW : Wt w B R g c l) (hnl : n ≤ l.length) (hU : DownOk (keyF l) n 0) (hn : l.length ≤ 100000) :
    Calls Tryz.prog 130 #[.iface 139 (.pointer (some ⟨R, 0, none⟩)), .int .i64 0, .int .i64 (n : Int)] w fun e w' => ∃ b : Value, e = .returned b ∧ HeapPost B R g c l (fun l' => HeapF (keyF l') n ∧ ∀ k, n ≤ k → l'[k]? = l[k]?) w w' := by
  have nl := fun wx => nil_less R wx
  have ns := fun wx => nil_swap R wx
  have HW := hid hW
  have HU := hid hU
  obtain ⟨N, hNN⟩ : ∃ N, l.length = N := ⟨_, rfl⟩
  have HN := hid hNN
  rw [hNN] at hnl hn
  clear hW hU hNN
  go_enter Tryz.func130, Tryz.ntmps130
  go_wp2_with fail
  go_loopw [7] (fun v wr => ∃ (i : Nat) (m : List Ro), v = .int .i64 (i : Int) ∧ i ≤ N ∧ Hid (m.length = N) ∧ Hid (m.Perm l) ∧ Hid (DownOk (keyF m) n i) ∧ Hid (Wt wr B R g c m) ∧ Hid (u_KeepB (fun k => k = g) w wr) ∧ Hid (∀ k, n ≤ k → m[k]? = l[k]?)) (fun v _ => N - (intOf v).toNat)
  case atStart => exact ⟨0, l, rfl, Nat.zero_le _, HN.out, List.Perm.refl _, HU.out, HW.out, u_KeepB.refl _ _, fun _ _ => rfl⟩
  case round =>
    clear HW HU HN
    obtain ⟨i, m, rfl, hi, HN, HP, HU, HW, HK, HT⟩ := hrel
    have hm1 : IntKind.i64.wrap (2 * (i : Int)) = 2 * (i : Int) := IntWalk.i64_in _ (by omega)
    have hm2 : IntKind.i64.wrap (2 * (i : Int) + 1) = 2 * (i : Int) + 1 := IntWalk.i64_in _ (by omega)
    obtain ⟨j, hj⟩ : ∃ j : Nat, 2 * i + 1 = j := ⟨_, rfl⟩
    have hji : 2 * (i : Int) + 1 = (j : Int) := by omega
    have hj1 : IntKind.i64.wrap (j : Int) = (j : Int) := IntWalk.i64_in _ (by omega)
    obtain ⟨j2, hj2e⟩ : ∃ j2 : Nat, j + 1 = j2 := ⟨_, rfl⟩
    have hj2c : (j : Int) + 1 = (j2 : Int) := by omega
    have hj2 : IntKind.i64.wrap (j2 : Int) = (j2 : Int) := IntWalk.i64_in _ (by omega)
    have hge : ¬ (j : Int) < 0 := by omega
    by_cases hlt : j < n
    case neg =>
      have hlt' : (n : Int) ≤ (j : Int) := by omega
      have HF := hid (show HeapF (keyF m) n from down_end HU.out (fun k hk hk0 hki => by omega))
      go_wp2_with fail
      go_ret
      first | exact ⟨m, HP.out, ⟨HF.out, HT.out⟩, HW.out, HK.out⟩ | exact ⟨_, rfl, m, HP.out, ⟨HF.out, HT.out⟩, HW.out, HK.out⟩ | exact ⟨⟨_, rfl⟩, m, HP.out, ⟨HF.out, HT.out⟩, HW.out, HK.out⟩
    have hlt' : ¬ (n : Int) ≤ (j : Int) := by omega
    have hjm : j < m.length := by rw [HN.out]; omega
    have him : i < m.length := by rw [HN.out]; omega
    have HJ := hid hj
    clear hj
    have HJ2 := hid hj2e
    clear hj2e
    go_upto_region 6 with fail
    go_cut [33] from 25 to 33 (fun v wv => ∃ D : Nat, v = .bool (decide (D = 1)) ∧ Hid ((D = 1 ∧ j2 < n ∧ (∀ k, k < n → 0 < k → (k - 1) / 2 = i → keyF m j2 ≤ keyF m k)) ∨ (D = 0 ∧ (∀ k, k < n → 0 < k → (k - 1) / 2 = i → keyF m j ≤ keyF m k))) ∧ Hid (Wt wv B R g c m) ∧ Hid (u_KeepB (fun k => k = g) w wv))
    case first =>
      by_cases h2 : j2 < n
      case neg =>
        have h2' : ¬ (j2 : Int) < (n : Int) := by omega
        have HF := hid (show ∀ k, k < n → 0 < k → (k - 1) / 2 = i → keyF m j ≤ keyF m k from fun k hk hk0 hki => by
          have := HJ.out
          have := HJ2.out
          have : k = j := by omega
          subst this
          exact Int.le_refl _)
        go_wp2_with fail
        go_meet
        exact ⟨0, rfl, .inr ⟨rfl, HF.out⟩, HW.out, HK.out⟩
      have h2' : (j2 : Int) < (n : Int) := by omega
      have hj2m : j2 < m.length := by rw [HN.out]; omega
      have ml := meth_less R _ wr (by rw [Lib.cell_of_heap HW.out.box]; rfl)
      have CL := hid (cWLess (some ⟨g, 0, none⟩) c m j2 j wr HW.out.row hj2m hjm)
      rw [HN.out] at ml CL
      obtain ⟨D, hD⟩ : ∃ D, decide (m[j2].til < m[j].til) = D := ⟨_, rfl⟩
      have HD := hid hD
      rw [hD] at CL
      have H2 := hid h2
      clear hD h2
      go_wp2_with fail
      refine CL.out.mono ?_
      rintro e w2 ⟨rfl, hb2⟩
      have HW2 := hid (HW.out.below hb2)
      have HK2 := hid (HK.out.trans (u_KeepB.of_below _ hb2))
      clear hb2 CL HK HW ml
      cases D with
      | false =>
        have HF := hid (show ∀ k, k < n → 0 < k → (k - 1) / 2 = i → keyF m j ≤ keyF m k from fun k hk hk0 hki => by
          have h1 := of_decide_eq_false HD.out
          have := HJ.out
          have := HJ2.out
          rcases (show k = j ∨ k = j2 by omega) with rfl | rfl
          · exact Int.le_refl _
          · rw [keyF_lt hj2m, keyF_lt hjm]; omega)
        go_wp2_with fail
        go_meet
        exact ⟨0, rfl, .inr ⟨rfl, HF.out⟩, HW2.out, HK2.out⟩
      | true =>
        have HF := hid (show ∀ k, k < n → 0 < k → (k - 1) / 2 = i → keyF m j2 ≤ keyF m k from fun k hk hk0 hki => by
          have h1 := of_decide_eq_true HD.out
          have := HJ.out
          have := HJ2.out
          rcases (show k = j ∨ k = j2 by omega) with rfl | rfl
          · rw [keyF_lt hj2m, keyF_lt hjm]; omega
          · exact Int.le_refl _)
        go_wp2_with fail
        go_meet
        exact ⟨1, rfl, .inl ⟨rfl, H2.out, HF.out⟩, HW2.out, HK2.out⟩
    case rest =>
      clear HW HK
      obtain ⟨D, rfl, HX, HW, HK⟩ := hcut
      rcases HX.out with ⟨rfl, h2, hM⟩ | ⟨rfl, hM⟩
      all_goals
        have HM := hid hM
        clear hM HX
      · have HQ := hid (show j2 < n ∧ 0 < j2 ∧ (j2 - 1) / 2 = i ∧ i < j2 by have := HJ.out; have := HJ2.out; omega)
        have hd1 : decide ((1 : Nat) = 1) = true := rfl
        clear h2
        have hqm : j2 < m.length := by rw [HN.out]; have := HQ.out; omega
        have ml := meth_less R _ _ (by rw [Lib.cell_of_heap HW.out.box]; rfl)
        have CL := hid (cWLess (some ⟨g, 0, none⟩) c m j2 i _ HW.out.row hqm him)
        rw [HN.out] at ml CL
        obtain ⟨D, hD⟩ : ∃ D, decide (m[j2].til < m[i].til) = D := ⟨_, rfl⟩
        have HD := hid hD
        rw [hD] at CL
        clear hD
        go_wp2_with fail
        refine CL.out.mono ?_
        rintro e w2 ⟨rfl, hb2⟩
        have HW2 := hid (HW.out.below hb2)
        have HK2 := hid (HK.out.trans (u_KeepB.of_below _ hb2))
        clear hb2 CL HK HW ml
        cases D with
        | false =>
          have HF := hid (show HeapF (keyF m) n from down_end HU.out (fun k hk hk0 hki => by
            have h1 := of_decide_eq_false HD.out
            have h2 := HM.out k hk hk0 hki
            rw [keyF_lt hqm] at h2
            rw [keyF_lt him]
            omega))
          go_wp2_with fail
          go_ret
          first | exact ⟨m, HP.out, ⟨HF.out, HT.out⟩, HW2.out, HK2.out⟩ | exact ⟨_, rfl, m, HP.out, ⟨HF.out, HT.out⟩, HW2.out, HK2.out⟩ | exact ⟨⟨_, rfl⟩, m, HP.out, ⟨HF.out, HT.out⟩, HW2.out, HK2.out⟩
        | true =>
          have HF := hid (show DownOk (keyF (swR m i j2 him hqm)) n j2 from by
            have h1 := of_decide_eq_true HD.out
            obtain ⟨h2, h3, h4, h5⟩ := HQ.out
            rw [swR_key]
            exact down_step HU.out h2 h4 h3 (by rw [keyF_lt hqm, keyF_lt him]; exact h1) HM.out)
          have HP3 := hid ((swR_perm m i j2 him hqm).trans HP.out)
          have HN3 := hid ((swR_len m i j2 him hqm).trans HN.out)
          have HW3 := hid (HW2.out.swap i j2 him hqm)
          have HK3 := hid (HK2.out.trans (swW_keep w2 g i j2 m[i].id m[j2].id m[i].til m[j2].til))
          have HT3 := hid (show ∀ k, n ≤ k → (swR m i j2 him hqm)[k]? = l[k]? from fun k hk => by
            obtain ⟨h2, h3, h4, h5⟩ := HQ.out
            rw [← HT.out k hk]
            exact swR_o him hqm (by omega) (by omega))
          have ms := meth_swap R _ w2 (by rw [Lib.cell_of_heap HW2.out.box]; rfl)
          have CS := hid (by
            obtain ⟨cu, hh, hcu⟩ := HW2.out.cells (by omega)
            obtain ⟨q0, q1⟩ := hcu i him
            obtain ⟨q2, q3⟩ := hcu j2 hqm
            rw [Nat.zero_add] at q0 q1 q2 q3
            exact cWSwap g c m.length i j2 m[i].id m[j2].id m[i].til m[j2].til w2 (by rw [Lib.cell_of_heap hh]; exact q0) (by rw [Lib.cell_of_heap hh]; exact q1) (by rw [Lib.cell_of_heap hh]; exact q2) (by rw [Lib.cell_of_heap hh]; exact q3) (fun o => Lib.frozen_of_heap hh _) him hqm)
          rw [HN.out] at ms CS
          clear HW2 HK2 HU HP HD
          go_wp2_with fail
          refine CS.out.mono ?_
          rintro e w3 ⟨rfl, rfl⟩
          have hpx := HQ.out
          have hqN : j2 ≤ N := by omega
          clear ms CS
          go_wp2_with fail
          go_roundw
          case rel => exact ⟨j2, _, rfl, hqN, HN3.out, HP3.out, HF.out, HW3.out, HK3.out, HT3.out⟩
          case measure => simp [intOf]; omega
      · have HQ := hid (show j < n ∧ 0 < j ∧ (j - 1) / 2 = i ∧ i < j by have := HJ.out; omega)
        have hd1 : decide ((0 : Nat) = 1) = false := rfl
        have hqm : j < m.length := by rw [HN.out]; have := HQ.out; omega
        have ml := meth_less R _ _ (by rw [Lib.cell_of_heap HW.out.box]; rfl)
        have CL := hid (cWLess (some ⟨g, 0, none⟩) c m j i _ HW.out.row hqm him)
        rw [HN.out] at ml CL
        obtain ⟨D, hD⟩ : ∃ D, decide (m[j].til < m[i].til) = D := ⟨_, rfl⟩
        have HD := hid hD
        rw [hD] at CL
        clear hD
        go_wp2_with fail
        refine CL.out.mono ?_
        rintro e w2 ⟨rfl, hb2⟩
        have HW2 := hid (HW.out.below hb2)
        have HK2 := hid (HK.out.trans (u_KeepB.of_below _ hb2))
        clear hb2 CL HK HW ml
        cases D with
        | false =>
          have HF := hid (show HeapF (keyF m) n from down_end HU.out (fun k hk hk0 hki => by
            have h1 := of_decide_eq_false HD.out
            have h2 := HM.out k hk hk0 hki
            rw [keyF_lt hqm] at h2
            rw [keyF_lt him]
            omega))
          go_wp2_with fail
          go_ret
          first | exact ⟨m, HP.out, ⟨HF.out, HT.out⟩, HW2.out, HK2.out⟩ | exact ⟨_, rfl, m, HP.out, ⟨HF.out, HT.out⟩, HW2.out, HK2.out⟩ | exact ⟨⟨_, rfl⟩, m, HP.out, ⟨HF.out, HT.out⟩, HW2.out, HK2.out⟩
        | true =>
          have HF := hid (show DownOk (keyF (swR m i j him hqm)) n j from by
            have h1 := of_decide_eq_true HD.out
            obtain ⟨h2, h3, h4, h5⟩ := HQ.out
            rw [swR_key]
            exact down_step HU.out h2 h4 h3 (by rw [keyF_lt hqm, keyF_lt him]; exact h1) HM.out)
          have HP3 := hid ((swR_perm m i j him hqm).trans HP.out)
          have HN3 := hid ((swR_len m i j him hqm).trans HN.out)
          have HW3 := hid (HW2.out.swap i j him hqm)
          have HK3 := hid (HK2.out.trans (swW_keep w2 g i j m[i].id m[j].id m[i].til m[j].til))
          have HT3 := hid (show ∀ k, n ≤ k → (swR m i j him hqm)[k]? = l[k]? from fun k hk => by
            obtain ⟨h2, h3, h4, h5⟩ := HQ.out
            rw [← HT.out k hk]
            exact swR_o him hqm (by omega) (by omega))
          have ms := meth_swap R _ w2 (by rw [Lib.cell_of_heap HW2.out.box]; rfl)
          have CS := hid (by
            obtain ⟨cu, hh, hcu⟩ := HW2.out.cells (by omega)
            obtain ⟨q0, q1⟩ := hcu i him
            obtain ⟨q2, q3⟩ := hcu j hqm
            rw [Nat.zero_add] at q0 q1 q2 q3
            exact cWSwap g c m.length i j m[i].id m[j].id m[i].til m[j].til w2 (by rw [Lib.cell_of_heap hh]; exact q0) (by rw [Lib.cell_of_heap hh]; exact q1) (by rw [Lib.cell_of_heap hh]; exact q2) (by rw [Lib.cell_of_heap hh]; exact q3) (fun o => Lib.frozen_of_heap hh _) him hqm)
          rw [HN.out] at ms CS
          clear HW2 HK2 HU HP HD
          go_wp2_with fail
          refine CS.out.mono ?_
          rintro e w3 ⟨rfl, rfl⟩
          have hpx := HQ.out
          have hqN : j ≤ N := by omega
          clear ms CS
          go_wp2_with fail
          go_roundw
          case rel => exact ⟨j, _, rfl, hqN, HN3.out, HP3.out, HF.out, HW3.out, HK3.out, HT3.out⟩
          case measure => simp [intOf]; omega

end Go.Proofs.YtgdfeicojgnoaaaGreatDoor

namespace Go.Proofs.YtgdfeicojgnoaaaGreatDoor
open Go.RowKit
set_option linter.unusedVariables false
set_option linter.unusedSimpArgs false

theorem Wn.wt {w : World} {B R : Nat} {v : Value} {l : List Ro} (h : Wn w B R v l) (h0 : 0 < l.length) : ∃ g c, v = .slice (some ⟨g, 0, none⟩) l.length c ∧ Wt w B R g c l ∧ B ≤ g := by
  rcases h.own.2 with ⟨e1, e2⟩ | ⟨g, cp, cur, e1, k1, _⟩
  · omega
  · subst e1
    exact ⟨g, cp, rfl, ⟨h.box, h.own⟩, k1⟩

theorem key_app {l : List Ro} (x : Ro) (h : HeapF (keyF l) l.length) : UpOk (keyF (l ++ [x])) (l.length + 1) l.length := by
  refine up_start (fun k hk h0 => ?_)
  have e : ∀ q, q < l.length → keyF (l ++ [x]) q = keyF l q := fun q hq => by
    rw [keyF_lt hq, keyF_lt (by rw [List.length_append]; omega), List.getElem_append_left hq]
  rw [e _ (by omega), e _ hk]
  exact h k hk h0

set_option maxRecDepth 8000 in
set_option maxHeartbeats 8000000 in
theorem cHPush (B R : Nat) (v : Value) (l : List Ro) (x : ByteArray) (y : Int) (w : World) (hW : Wn w B R v l) (hB : B ≤ w.heap.size) (hRB : R < B) (hl : l.length ≤ 90000) (hH : HeapF (keyF l) l.length) :
    Calls Tryz.prog 99 #[.iface 139 (.pointer (some ⟨R, 0, none⟩)), .iface 83 (.agg #[.string x, .int .i64 y])] w fun e w' => e = .returned (.tuple #[]) ∧ ∃ v' l', l'.Perm (l ++ [⟨x, y⟩]) ∧ HeapF (keyF l') l'.length ∧ Wn w' B R v' l' ∧ Below R w w' := by
  have np := fun wx => nil_push R wx
  have nn := fun wx => nil_len R wx
  have mp := fun wx => meth_push R wx
  have CP := hid (cWPush B R v l x y w hW hB hRB (by omega))
  have HK := hid (key_app ⟨x, y⟩ hH)
  clear hW hH
  go_enter Tryz.func99, Tryz.ntmps99
  go_wp2_with fail
  refine CP.out.mono ?_
  rintro e w1 ⟨rfl, v1, hW1, hb1⟩
  have hlen : (l ++ [(⟨x, y⟩ : Ro)]).length = l.length + 1 := by simp
  obtain ⟨g, c, rfl, hT, hBg⟩ := hW1.wt (by omega)
  have HT := hid hT
  have HB1 := hid hb1
  rw [← hlen] at HK
  obtain ⟨m, hm⟩ : ∃ m, l ++ [(⟨x, y⟩ : Ro)] = m := ⟨_, rfl⟩
  rw [hm] at HT HK hlen
  have HM := hid hm
  have HLN := hid hlen
  have ml := meth_len R _ w1 (u_box1c HT.out.box)
  obtain ⟨n, hn⟩ : ∃ n, l.length = n := ⟨_, rfl⟩
  rw [hn] at HK hl HLN
  rw [hlen, hn] at ml
  have hw1 : IntKind.i64.wrap (n : Int) = (n : Int) := IntWalk.i64_in _ (by omega)
  have CU := hid (cUp B R g c m n w1 HT.out (by rw [HLN.out]; omega) HK.out (by rw [HLN.out]; omega))
  have e1 : ((n + 1 : Nat) : Int) = (n : Int) + 1 := rfl
  clear hT hW1 hb1 hm hlen hn CP mp np
  go_wp2_with fail
  refine (cWLen _ _ _ _).mono ?_
  rintro e w2 ⟨rfl, rfl⟩
  go_wp2_with fail
  refine CU.out.mono ?_
  rintro e w3 ⟨rfl, l', hp, hq, hwt, hk⟩
  have HF := hid (And.intro (show l'.Perm (l ++ [⟨x, y⟩]) from by rw [HM.out]; exact hp) (And.intro hq (And.intro (Wn.mk hwt.box hwt.own) (HB1.out.trans (hk.below (B := R) (Nat.le_of_lt (lt_of_heap HT.out.box)) (fun k e => by omega))))))
  clear hp hq hwt hk
  go_wp2_with fail
  go_end0
  exact ⟨rfl, _, l', HF.out⟩

end Go.Proofs.YtgdfeicojgnoaaaGreatDoor
