/- The heap of rows: down. container/heap.Push over the rows. The library contracts that the sorting leans on, laid at this program: a field a fact of the program, each contract one application. -/
import Derived.Test.YtajlgnlifffanaaGreatDoorM36
import Derived.Test.YtajlgnlifffanaaGreatDoorM37
import Derived.Test.YtajlgnlifffanaaGreatDoorProg
import Derived.Deep.Cut
import Derived.Deep.CutRange
import Derived.Shelf.Small.Bits
import Derived.Shelf.Strconv.Itoa0
import Derived.Shelf.SlSortCmp.PdqK
namespace Go.Proofs.YtajlgnlifffanaaGreatDoor
open Go.RowKit
set_option linter.unusedVariables false
set_option linter.unusedSimpArgs false

theorem swR_o {l : List Ro} {i j k : Nat} (hi : i < l.length) (hj : j < l.length) (h1 : ¬ k = i) (h2 : ¬ k = j) : (swR l i j hi hj)[k]? = l[k]? := by
  by_cases h : k < l.length
  · rw [List.getElem?_eq_getElem h, List.getElem?_eq_getElem (by rw [swR_len]; exact h), swR_get, if_neg h1, if_neg h2]
  · have e1 : l[k]? = none := List.getElem?_eq_none (by omega)
    have e2 : (swR l i j hi hj)[k]? = none := List.getElem?_eq_none (by rw [swR_len]; omega)
    rw [e1, e2]

set_option maxRecDepth 8000 in
set_option maxHeartbeats 4000000 in
theorem cDown (B R g c n : Nat) (l : List Ro) (w : World) (hW : Wt w B R g c l) (hnl : n ≤ l.length) (hU : DownOk (keyF l) n 0) (hn : l.length ≤ 100000) :
    Calls Tryz.prog 130 #[.iface 139 (.pointer (some ⟨R, 0, none⟩)), .int .i64 0, .int .i64 (n : Int)] w fun e w' => ∃ b : Value, e = .returned b ∧ HeapPost B R g c l (fun l' => HeapF (keyF l') n ∧ ∀ k, n ≤ k → l'[k]? = l[k]?) w w' := by
  have nl := fun wx => nil_less R wx
  have ns := fun wx => nil_swap R wx
  have HW := hid hW
  have HU := hid hU
  obtain ⟨N, hNN⟩ : ∃ N, l.length = N := ⟨_, rfl⟩
  have HN := hid hNN
  rw [hNN] at hnl hn
  clear hW hU hNN
  go_enter Tryz.func130, Tryz.ntmps130
  go_wp2_with fail
  go_loopw [7] (fun v wr => ∃ (i : Nat) (m : List Ro), v = .int .i64 (i : Int) ∧ i ≤ N ∧ Hid (m.length = N) ∧ Hid (m.Perm l) ∧ Hid (DownOk (keyF m) n i) ∧ Hid (Wt wr B R g c m) ∧ Hid (u_KeepB (fun k => k = g) w wr) ∧ Hid (∀ k, n ≤ k → m[k]? = l[k]?)) (fun v _ => N - (intOf v).toNat)
  case atStart => exact ⟨0, l, rfl, Nat.zero_le _, HN.out, List.Perm.refl _, HU.out, HW.out, u_KeepB.refl _ _, fun _ _ => rfl⟩
  case round =>
    clear HW HU HN
    obtain ⟨i, m, rfl, hi, HN, HP, HU, HW, HK, HT⟩ := hrel
    have hm1 : IntKind.i64.wrap (2 * (i : Int)) = 2 * (i : Int) := IntWalk.i64_in _ (by omega)
    have hm2 : IntKind.i64.wrap (2 * (i : Int) + 1) = 2 * (i : Int) + 1 := IntWalk.i64_in _ (by omega)
    obtain ⟨j, hj⟩ : ∃ j : Nat, 2 * i + 1 = j := ⟨_, rfl⟩
    have hji : 2 * (i : Int) + 1 = (j : Int) := by omega
    have hj1 : IntKind.i64.wrap (j : Int) = (j : Int) := IntWalk.i64_in _ (by omega)
    obtain ⟨j2, hj2e⟩ : ∃ j2 : Nat, j + 1 = j2 := ⟨_, rfl⟩
    have hj2c : (j : Int) + 1 = (j2 : Int) := by omega
    have hj2 : IntKind.i64.wrap (j2 : Int) = (j2 : Int) := IntWalk.i64_in _ (by omega)
    have hge : ¬ (j : Int) < 0 := by omega
    by_cases hlt : j < n
    case neg =>
      have hlt' : (n : Int) ≤ (j : Int) := by omega
      have HF := hid (show HeapF (keyF m) n from down_end HU.out (fun k hk hk0 hki => by omega))
      go_wp2_with fail
      go_ret
      first | exact ⟨m, HP.out, ⟨HF.out, HT.out⟩, HW.out, HK.out⟩ | exact ⟨_, rfl, m, HP.out, ⟨HF.out, HT.out⟩, HW.out, HK.out⟩ | exact ⟨⟨_, rfl⟩, m, HP.out, ⟨HF.out, HT.out⟩, HW.out, HK.out⟩
    have hlt' : ¬ (n : Int) ≤ (j : Int) := by omega
    have hjm : j < m.length := by rw [HN.out]; omega
    have him : i < m.length := by rw [HN.out]; omega
    have HJ := hid hj
    clear hj
    have HJ2 := hid hj2e
    clear hj2e
    go_upto_region 6 with fail
    go_cut [33] from 25 to 33 (fun v wv => ∃ D : Nat, v = .bool (decide (D = 1)) ∧ Hid ((D = 1 ∧ j2 < n ∧ (∀ k, k < n → 0 < k → (k - 1) / 2 = i → keyF m j2 ≤ keyF m k)) ∨ (D = 0 ∧ (∀ k, k < n → 0 < k → (k - 1) / 2 = i → keyF m j ≤ keyF m k))) ∧ Hid (Wt wv B R g c m) ∧ Hid (u_KeepB (fun k => k = g) w wv))
    case first =>
      by_cases h2 : j2 < n
      case neg =>
        have h2' : ¬ (j2 : Int) < (n : Int) := by omega
        have HF := hid (show ∀ k, k < n → 0 < k → (k - 1) / 2 = i → keyF m j ≤ keyF m k from fun k hk hk0 hki => by
          have := HJ.out
          have := HJ2.out
          have : k = j := by omega
          subst this
          exact Int.le_refl _)
        go_wp2_with fail
        go_meet
        exact ⟨0, rfl, .inr ⟨rfl, HF.out⟩, HW.out, HK.out⟩
      have h2' : (j2 : Int) < (n : Int) := by omega
      have hj2m : j2 < m.length := by rw [HN.out]; omega
      have ml := meth_less R _ wr (by rw [Lib.cell_of_heap HW.out.box]; rfl)
      have CL := hid (cWLess (some ⟨g, 0, none⟩) c m j2 j wr HW.out.row hj2m hjm)
      rw [HN.out] at ml CL
      obtain ⟨D, hD⟩ : ∃ D, decide (m[j2].til < m[j].til) = D := ⟨_, rfl⟩
      have HD := hid hD
      rw [hD] at CL
      have H2 := hid h2
      clear hD h2
      go_wp2_with fail
      refine CL.out.mono ?_
      rintro e w2 ⟨rfl, hb2⟩
      have HW2 := hid (HW.out.below hb2)
      have HK2 := hid (HK.out.trans (u_KeepB.of_below _ hb2))
      clear hb2 CL HK HW ml
      cases D with
      | false =>
        have HF := hid (show ∀ k, k < n → 0 < k → (k - 1) / 2 = i → keyF m j ≤ keyF m k from fun k hk hk0 hki => by
          have h1 := of_decide_eq_false HD.out
          have := HJ.out
          have := HJ2.out
          rcases (show k = j ∨ k = j2 by omega) with rfl | rfl
          · exact Int.le_refl _
          · rw [keyF_lt hj2m, keyF_lt hjm]; omega)
        go_wp2_with fail
        go_meet
        exact ⟨0, rfl, .inr ⟨rfl, HF.out⟩, HW2.out, HK2.out⟩
      | true =>
        have HF := hid (show ∀ k, k < n → 0 < k → (k - 1) / 2 = i → keyF m j2 ≤ keyF m k from fun k hk hk0 hki => by
          have h1 := of_decide_eq_true HD.out
          have := HJ.out
          have := HJ2.out
          rcases (show k = j ∨ k = j2 by omega) with rfl | rfl
          · rw [keyF_lt hj2m, keyF_lt hjm]; omega
          · exact Int.le_refl _)
        go_wp2_with fail
        go_meet
        exact ⟨1, rfl, .inl ⟨rfl, H2.out, HF.out⟩, HW2.out, HK2.out⟩
    case rest =>
      clear HW HK
      obtain ⟨D, rfl, HX, HW, HK⟩ := hcut
      rcases HX.out with ⟨rfl, h2, hM⟩ | ⟨rfl, hM⟩
      all_goals
        have HM := hid hM
        clear hM HX
      · have HQ := hid (show j2 < n ∧ 0 < j2 ∧ (j2 - 1) / 2 = i ∧ i < j2 by have := HJ.out; have := HJ2.out; omega)
        have hd1 : decide ((1 : Nat) = 1) = true := rfl
        clear h2
        have hqm : j2 < m.length := by rw [HN.out]; have := HQ.out; omega
        have ml := meth_less R _ _ (by rw [Lib.cell_of_heap HW.out.box]; rfl)
        have CL := hid (cWLess (some ⟨g, 0, none⟩) c m j2 i _ HW.out.row hqm him)
        rw [HN.out] at ml CL
        obtain ⟨D, hD⟩ : ∃ D, decide (m[j2].til < m[i].til) = D := ⟨_, rfl⟩
        have HD := hid hD
        rw [hD] at CL
        clear hD
        go_wp2_with fail
        refine CL.out.mono ?_
        rintro e w2 ⟨rfl, hb2⟩
        have HW2 := hid (HW.out.below hb2)
        have HK2 := hid (HK.out.trans (u_KeepB.of_below _ hb2))
        clear hb2 CL HK HW ml
        cases D with
        | false =>
          have HF := hid (show HeapF (keyF m) n from down_end HU.out (fun k hk hk0 hki => by
            have h1 := of_decide_eq_false HD.out
            have h2 := HM.out k hk hk0 hki
            rw [keyF_lt hqm] at h2
            rw [keyF_lt him]
            omega))
          go_wp2_with fail
          go_ret
          first | exact ⟨m, HP.out, ⟨HF.out, HT.out⟩, HW2.out, HK2.out⟩ | exact ⟨_, rfl, m, HP.out, ⟨HF.out, HT.out⟩, HW2.out, HK2.out⟩ | exact ⟨⟨_, rfl⟩, m, HP.out, ⟨HF.out, HT.out⟩, HW2.out, HK2.out⟩
        | true =>
          have HF := hid (show DownOk (keyF (swR m i j2 him hqm)) n j2 from by
            have h1 := of_decide_eq_true HD.out
            obtain ⟨h2, h3, h4, h5⟩ := HQ.out
            rw [swR_key]
            exact down_step HU.out h2 h4 h3 (by rw [keyF_lt hqm, keyF_lt him]; exact h1) HM.out)
          have HP3 := hid ((swR_perm m i j2 him hqm).trans HP.out)
          have HN3 := hid ((swR_len m i j2 him hqm).trans HN.out)
          have HW3 := hid (HW2.out.swap i j2 him hqm)
          have HK3 := hid (HK2.out.trans (swW_keep w2 g i j2 m[i].id m[j2].id m[i].til m[j2].til))
          have HT3 := hid (show ∀ k, n ≤ k → (swR m i j2 him hqm)[k]? = l[k]? from fun k hk => by
            obtain ⟨h2, h3, h4, h5⟩ := HQ.out
            rw [← HT.out k hk]
            exact swR_o him hqm (by omega) (by omega))
          have ms := meth_swap R _ w2 (by rw [Lib.cell_of_heap HW2.out.box]; rfl)
          have CS := hid (by
            obtain ⟨cu, hh, hcu⟩ := HW2.out.cells (by omega)
            obtain ⟨q0, q1⟩ := hcu i him
            obtain ⟨q2, q3⟩ := hcu j2 hqm
            rw [Nat.zero_add] at q0 q1 q2 q3
            exact cWSwap g c m.length i j2 m[i].id m[j2].id m[i].til m[j2].til w2 (by rw [Lib.cell_of_heap hh]; exact q0) (by rw [Lib.cell_of_heap hh]; exact q1) (by rw [Lib.cell_of_heap hh]; exact q2) (by rw [Lib.cell_of_heap hh]; exact q3) (fun o => Lib.frozen_of_heap hh _) him hqm)
          rw [HN.out] at ms CS
          clear HW2 HK2 HU HP HD
          go_wp2_with fail
          refine CS.out.mono ?_
          rintro e w3 ⟨rfl, rfl⟩
          have hpx := HQ.out
          have hqN : j2 ≤ N := by omega
          clear ms CS
          go_wp2_with fail
          go_roundw
          case rel => exact ⟨j2, _, rfl, hqN, HN3.out, HP3.out, HF.out, HW3.out, HK3.out, HT3.out⟩
          case measure => simp [intOf]; omega
      · have HQ := hid (show j < n ∧ 0 < j ∧ (j - 1) / 2 = i ∧ i < j by have := HJ.out; omega)
        have hd1 : decide ((0 : Nat) = 1) = false := rfl
        have hqm : j < m.length := by rw [HN.out]; have := HQ.out; omega
        have ml := meth_less R _ _ (by rw [Lib.cell_of_heap HW.out.box]; rfl)
        have CL := hid (cWLess (some ⟨g, 0, none⟩) c m j i _ HW.out.row hqm him)
        rw [HN.out] at ml CL
        obtain ⟨D, hD⟩ : ∃ D, decide (m[j].til < m[i].til) = D := ⟨_, rfl⟩
        have HD := hid hD
        rw [hD] at CL
        clear hD
        go_wp2_with fail
        refine CL.out.mono ?_
        rintro e w2 ⟨rfl, hb2⟩
        have HW2 := hid (HW.out.below hb2)
        have HK2 := hid (HK.out.trans (u_KeepB.of_below _ hb2))
        clear hb2 CL HK HW ml
        cases D with
        | false =>
          have HF := hid (show HeapF (keyF m) n from down_end HU.out (fun k hk hk0 hki => by
            have h1 := of_decide_eq_false HD.out
            have h2 := HM.out k hk hk0 hki
            rw [keyF_lt hqm] at h2
            rw [keyF_lt him]
            omega))
          go_wp2_with fail
          go_ret
          first | exact ⟨m, HP.out, ⟨HF.out, HT.out⟩, HW2.out, HK2.out⟩ | exact ⟨_, rfl, m, HP.out, ⟨HF.out, HT.out⟩, HW2.out, HK2.out⟩ | exact ⟨⟨_, rfl⟩, m, HP.out, ⟨HF.out, HT.out⟩, HW2.out, HK2.out⟩
        | true =>
          have HF := hid (show DownOk (keyF (swR m i j him hqm)) n j from by
            have h1 := of_decide_eq_true HD.out
            obtain ⟨h2, h3, h4, h5⟩ := HQ.out
            rw [swR_key]
            exact down_step HU.out h2 h4 h3 (by rw [keyF_lt hqm, keyF_lt him]; exact h1) HM.out)
          have HP3 := hid ((swR_perm m i j him hqm).trans HP.out)
          have HN3 := hid ((swR_len m i j him hqm).trans HN.out)
          have HW3 := hid (HW2.out.swap i j him hqm)
          have HK3 := hid (HK2.out.trans (swW_keep w2 g i j m[i].id m[j].id m[i].til m[j].til))
          have HT3 := hid (show ∀ k, n ≤ k → (swR m i j him hqm)[k]? = l[k]? from fun k hk => by
            obtain ⟨h2, h3, h4, h5⟩ := HQ.out
            rw [← HT.out k hk]
            exact swR_o him hqm (by omega) (by omega))
          have ms := meth_swap R _ w2 (by rw [Lib.cell_of_heap HW2.out.box]; rfl)
          have CS := hid (by
            obtain ⟨cu, hh, hcu⟩ := HW2.out.cells (by omega)
            obtain ⟨q0, q1⟩ := hcu i him
            obtain ⟨q2, q3⟩ := hcu j hqm
            rw [Nat.zero_add] at q0 q1 q2 q3
            exact cWSwap g c m.length i j m[i].id m[j].id m[i].til m[j].til w2 (by rw [Lib.cell_of_heap hh]; exact q0) (by rw [Lib.cell_of_heap hh]; exact q1) (by rw [Lib.cell_of_heap hh]; exact q2) (by rw [Lib.cell_of_heap hh]; exact q3) (fun o => Lib.frozen_of_heap hh _) him hqm)
          rw [HN.out] at ms CS
          clear HW2 HK2 HU HP HD
          go_wp2_with fail
          refine CS.out.mono ?_
          rintro e w3 ⟨rfl, rfl⟩
          have hpx := HQ.out
          have hqN : j ≤ N := by omega
          clear ms CS
          go_wp2_with fail
          go_roundw
          case rel => exact ⟨j, _, rfl, hqN, HN3.out, HP3.out, HF.out, HW3.out, HK3.out, HT3.out⟩
          case measure => simp [intOf]; omega

end Go.Proofs.YtajlgnlifffanaaGreatDoor

namespace Go.Proofs.YtajlgnlifffanaaGreatDoor
open Go.RowKit
set_option linter.unusedVariables false
set_option linter.unusedSimpArgs false

theorem Wn.wt {w : World} {B R : Nat} {v : Value} {l : List Ro} (h : Wn w B R v l) (h0 : 0 < l.length) : ∃ g c, v = .slice (some ⟨g, 0, none⟩) l.length c ∧ Wt w B R g c l ∧ B ≤ g := by
  rcases h.own.2 with ⟨e1, e2⟩ | ⟨g, cp, cur, e1, k1, _⟩
  · omega
  · subst e1
    exact ⟨g, cp, rfl, ⟨h.box, h.own⟩, k1⟩

theorem key_app {l : List Ro} (x : Ro) (h : HeapF (keyF l) l.length) : UpOk (keyF (l ++ [x])) (l.length + 1) l.length := by
  refine up_start (fun k hk h0 => ?_)
  have e : ∀ q, q < l.length → keyF (l ++ [x]) q = keyF l q := fun q hq => by
    rw [keyF_lt hq, keyF_lt (by rw [List.length_append]; omega), List.getElem_append_left hq]
  rw [e _ (by omega), e _ hk]
  exact h k hk h0

set_option maxRecDepth 8000 in
set_option maxHeartbeats 8000000 in
theorem cHPush (B R : Nat) (v : Value) (l : List Ro) (x : ByteArray) (y : Int) (w : World) (hW : Wn w B R v l) (hB : B ≤ w.heap.size) (hRB : R < B) (hl : l.length ≤ 90000) (hH : HeapF (keyF l) l.length) :
    Calls Tryz.prog 99 #[.iface 139 (.pointer (some ⟨R, 0, none⟩)), .iface 83 (.agg #[.string x, .int .i64 y])] w fun e w' => e = .returned (.tuple #[]) ∧ ∃ v' l', l'.Perm (l ++ [⟨x, y⟩]) ∧ HeapF (keyF l') l'.length ∧ Wn w' B R v' l' ∧ Below R w w' := by
  have np := fun wx => nil_push R wx
  have nn := fun wx => nil_len R wx
  have mp := fun wx => meth_push R wx
  have CP := hid (cWPush B R v l x y w hW hB hRB (by omega))
  have HK := hid (key_app ⟨x, y⟩ hH)
  clear hW hH
  go_enter Tryz.func99, Tryz.ntmps99
  go_wp2_with fail
  refine CP.out.mono ?_
  rintro e w1 ⟨rfl, v1, hW1, hb1⟩
  have hlen : (l ++ [(⟨x, y⟩ : Ro)]).length = l.length + 1 := by simp
  obtain ⟨g, c, rfl, hT, hBg⟩ := hW1.wt (by omega)
  have HT := hid hT
  have HB1 := hid hb1
  rw [← hlen] at HK
  obtain ⟨m, hm⟩ : ∃ m, l ++ [(⟨x, y⟩ : Ro)] = m := ⟨_, rfl⟩
  rw [hm] at HT HK hlen
  have HM := hid hm
  have HLN := hid hlen
  have ml := meth_len R _ w1 (u_box1c HT.out.box)
  obtain ⟨n, hn⟩ : ∃ n, l.length = n := ⟨_, rfl⟩
  rw [hn] at HK hl HLN
  rw [hlen, hn] at ml
  have hw1 : IntKind.i64.wrap (n : Int) = (n : Int) := IntWalk.i64_in _ (by omega)
  have CU := hid (cUp B R g c m n w1 HT.out (by rw [HLN.out]; omega) HK.out (by rw [HLN.out]; omega))
  have e1 : ((n + 1 : Nat) : Int) = (n : Int) + 1 := rfl
  clear hT hW1 hb1 hm hlen hn CP mp np
  go_wp2_with fail
  refine (cWLen _ _ _ _).mono ?_
  rintro e w2 ⟨rfl, rfl⟩
  go_wp2_with fail
  refine CU.out.mono ?_
  rintro e w3 ⟨rfl, l', hp, hq, hwt, hk⟩
  have HF := hid (And.intro (show l'.Perm (l ++ [⟨x, y⟩]) from by rw [HM.out]; exact hp) (And.intro hq (And.intro (Wn.mk hwt.box hwt.own) (HB1.out.trans (hk.below (B := R) (Nat.le_of_lt (lt_of_heap HT.out.box)) (fun k e => by omega))))))
  clear hp hq hwt hk
  go_wp2_with fail
  go_end0
  exact ⟨rfl, _, l', HF.out⟩

end Go.Proofs.YtajlgnlifffanaaGreatDoor

namespace Go.Proofs
open Go.Shelf
def Tryz.lays125_ren : Go.Shelf.Ren := ⟨fun | 125 => 132 | 128 => 150 | 129 => 151 | n => n, fun | 46 => 134 | 3 => 3 | 51 => 215 | 53 => 217 | 4 => 4 | 5 => 5 | 9 => 9 | n => n, fun | n => n⟩
theorem Tryz.lays125 : Go.Proofs.Lays.n125 Tryz.prog Tryz.lays125_ren := {
  mixed := by kernel_rfl
  f125 := Tryz.func132.trans (congrArg some (by kernel_rfl))
  f128 := Tryz.func150.trans (congrArg some (by kernel_rfl))
  f129 := Tryz.func151.trans (congrArg some (by kernel_rfl))
  t3 := Tryz.underlying3
  a3 := Tryz.isAgg3
  z3 := Tryz.sizeOf3
  v3 := Tryz.zeroValue3
  t4 := Tryz.underlying4
  a4 := Tryz.isAgg4
  z4 := Tryz.sizeOf4
  v4 := Tryz.zeroValue4
  t5 := Tryz.underlying5
  a5 := Tryz.isAgg5
  z5 := Tryz.sizeOf5
  v5 := Tryz.zeroValue5
  t9 := Tryz.underlying9
  a9 := Tryz.isAgg9
  z9 := Tryz.sizeOf9
  v9 := Tryz.zeroValue9
  t46 := Tryz.underlying134
  a46 := Tryz.isAgg134
  z46 := Tryz.sizeOf134
  v46 := Tryz.zeroValue134
  t51 := Tryz.underlying215
  a51 := Tryz.isAgg215
  z51 := Tryz.sizeOf215
  v51 := Tryz.zeroValue215
  t53 := Tryz.underlying217
  a53 := Tryz.isAgg217
  z53 := Tryz.sizeOf217
  v53 := Tryz.zeroValue217 }
/-- bits.Len: "Len returns the minimum number of bits required to represent x; the result is 0 for x == 0.": IT RETURNS 'Lib.bitLen x'; the world is as it was. (A uint has 64 bits in the model.) ITS CALLEE bits.Len64 IS MET BY ITS OWN CONTRACT OFF THE SHELF (lay that first). (LAID: no walk: one application.) -/
theorem Tryz.bits_Len (x : Int) (w : World) (h0 : 0 ≤ x) (h1 : x ≤ 18446744073709551615) :
    Calls Tryz.prog 132 #[.int .u64 x] w fun e w' => e = .returned (.int .i64 (Lib.bitLen x.toNat)) ∧ w' = w := Any.bits_Len Tryz.lays125 x w h0 h1
def Tryz.pdqR_ren : Go.Shelf.Ren := ⟨fun | 14 => 131 | 20 => 142 | 21 => 143 | 22 => 144 | 23 => 145 | 24 => 146 | 25 => 147 | 26 => 148 | 27 => 149 | 46 => 159 | 47 => 160 | 48 => 161 | 49 => 162 | 50 => 163 | 15 => 132 | 57 => 165 | 28 => 150 | 29 => 151 | n => n, fun | 24 => 83 | 22 => 25 | 3 => 3 | 25 => 112 | 4 => 4 | 0 => 0 | 46 => 209 | 45 => 208 | 50 => 78 | 66 => 219 | 39 => 134 | 55 => 217 | 70 => 223 | 76 => 225 | 77 => 226 | 53 => 215 | 5 => 5 | 9 => 9 | n => n, fun | n => n⟩
theorem Tryz.pdqR : Go.Proofs.SlLaysF0.n14 Tryz.prog Tryz.pdqR_ren := {
  mixed := by kernel_rfl
  f14 := ⟨Tryz.f131.name, by decide, Tryz.func131.trans (congrArg some (by kernel_rfl))⟩
  f15 := Tryz.func132.trans (congrArg some (by kernel_rfl))
  f20 := ⟨Tryz.f142.name, by decide, Tryz.func142.trans (congrArg some (by kernel_rfl))⟩
  f21 := ⟨Tryz.f143.name, by decide, Tryz.func143.trans (congrArg some (by kernel_rfl))⟩
  f22 := ⟨Tryz.f144.name, by decide, Tryz.func144.trans (congrArg some (by kernel_rfl))⟩
  f23 := ⟨Tryz.f145.name, by decide, Tryz.func145.trans (congrArg some (by kernel_rfl))⟩
  f24 := ⟨Tryz.f146.name, by decide, Tryz.func146.trans (congrArg some (by kernel_rfl))⟩
  f25 := ⟨Tryz.f147.name, by decide, Tryz.func147.trans (congrArg some (by kernel_rfl))⟩
  f26 := ⟨Tryz.f148.name, by decide, Tryz.func148.trans (congrArg some (by kernel_rfl))⟩
  f27 := ⟨Tryz.f149.name, by decide, Tryz.func149.trans (congrArg some (by kernel_rfl))⟩
  f28 := Tryz.func150.trans (congrArg some (by kernel_rfl))
  f29 := Tryz.func151.trans (congrArg some (by kernel_rfl))
  f46 := ⟨Tryz.f159.name, by decide, Tryz.func159.trans (congrArg some (by kernel_rfl))⟩
  f47 := Tryz.func160.trans (congrArg some (by kernel_rfl))
  f48 := Tryz.func161.trans (congrArg some (by kernel_rfl))
  f49 := ⟨Tryz.f162.name, by decide, Tryz.func162.trans (congrArg some (by kernel_rfl))⟩
  f50 := ⟨Tryz.f163.name, by decide, Tryz.func163.trans (congrArg some (by kernel_rfl))⟩
  f57 := ⟨Tryz.f165.name, by decide, Tryz.func165.trans (congrArg some (by kernel_rfl))⟩
  t0 := Tryz.underlying0
  a0 := Tryz.isAgg0
  z0 := Tryz.sizeOf0
  v0 := Tryz.zeroValue0
  t3 := Tryz.underlying3
  a3 := Tryz.isAgg3
  z3 := Tryz.sizeOf3
  v3 := Tryz.zeroValue3
  t4 := Tryz.underlying4
  a4 := Tryz.isAgg4
  z4 := Tryz.sizeOf4
  v4 := Tryz.zeroValue4
  t5 := Tryz.underlying5
  a5 := Tryz.isAgg5
  z5 := Tryz.sizeOf5
  v5 := Tryz.zeroValue5
  t9 := Tryz.underlying9
  a9 := Tryz.isAgg9
  z9 := Tryz.sizeOf9
  v9 := Tryz.zeroValue9
  t22 := Tryz.underlying25
  a22 := Tryz.isAgg25
  z22 := Tryz.sizeOf25
  v22 := Tryz.zeroValue25
  t25 := Tryz.underlying112
  a25 := Tryz.isAgg112
  z25 := Tryz.sizeOf112
  v25 := Tryz.zeroValue112
  t39 := Tryz.underlying134
  a39 := Tryz.isAgg134
  z39 := Tryz.sizeOf134
  v39 := Tryz.zeroValue134
  t45 := Tryz.underlying208
  a45 := Tryz.isAgg208
  z45 := Tryz.sizeOf208
  v45 := Tryz.zeroValue208
  t46 := Tryz.underlying209
  a46 := Tryz.isAgg209
  z46 := Tryz.sizeOf209
  v46 := Tryz.zeroValue209
  t50 := Tryz.underlying78
  a50 := Tryz.isAgg78
  z50 := Tryz.sizeOf78
  v50 := Tryz.zeroValue78
  t53 := Tryz.underlying215
  a53 := Tryz.isAgg215
  z53 := Tryz.sizeOf215
  v53 := Tryz.zeroValue215
  t55 := Tryz.underlying217
  a55 := Tryz.isAgg217
  z55 := Tryz.sizeOf217
  v55 := Tryz.zeroValue217
  t66 := Tryz.underlying219
  a66 := Tryz.isAgg219
  z66 := Tryz.sizeOf219
  v66 := Tryz.zeroValue219
  t70 := Tryz.underlying223
  a70 := Tryz.isAgg223
  z70 := Tryz.sizeOf223
  v70 := Tryz.zeroValue223
  t76 := Tryz.underlying225
  a76 := Tryz.isAgg225
  z76 := Tryz.sizeOf225
  v76 := Tryz.zeroValue225
  t77 := Tryz.underlying226
  a77 := Tryz.isAgg226
  z77 := Tryz.sizeOf226
  v77 := Tryz.zeroValue226 }
end Go.Proofs
