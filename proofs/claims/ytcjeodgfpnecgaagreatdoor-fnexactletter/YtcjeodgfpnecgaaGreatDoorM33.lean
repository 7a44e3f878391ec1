/- A claim that is marked: contract of the laws' markClaim; and how small the tree of a claim is. Contract of the program's ClaimTree: the walk. Contract of the specification's l10Cut. -/
import Derived.Test.YtcjeodgfpnecgaaGreatDoorM31
import Derived.Test.YtcjeodgfpnecgaaGreatDoorM13
import Derived.Test.YtcjeodgfpnecgaaGreatDoorM3
import Derived.Test.YtcjeodgfpnecgaaGreatDoorM32
import Derived.Test.YtcjeodgfpnecgaaGreatDoorM27
import Derived.Test.YtcjeodgfpnecgaaGreatDoorM30
import Derived.Deep.CutRange
import Derived.Deep.QuietTactic
import Derived.BigQuiet
import Derived.Deep.RegionHeld3
namespace Go.Proofs.YtcjeodgfpnecgaaGreatDoor
open Go.RowKit
set_option linter.unusedVariables false
set_option linter.unusedSimpArgs false

theorem cells_room {cu : Array Value} {l : List At} (h : AtCells cu 0 l) : 0 + l.length * 2 ≤ cu.size := by
  rcases Nat.eq_zero_or_pos l.length with h0 | h0
  · omega
  · have h1 := (h (l.length - 1) (by omega)).2
    have h2 : 0 + (l.length - 1) * 2 + 1 < cu.size := by
      rcases Nat.lt_or_ge (0 + (l.length - 1) * 2 + 1) cu.size with h' | h'
      · exact h'
      · rw [Array.getElem?_eq_none h'] at h1
        cases h1
    omega

set_option maxHeartbeats 4000000 in
theorem cMarkClaim (c : Cm) (g cap : Nat) (cu : Array Value) (w : World) (hg : w.heap[g]? = some (.cells cu 58 (0, 0))) (hc : AtCells cu 0 c.facts) (hn : c.facts.length ≤ 1048576) :
    Calls Tryz.prog 10 #[cmV c (some ⟨g, 0, none⟩) cap, .int .i64 1] w fun e w' => ∃ k : Nat, e = .returned (.int .i64 (k : Int)) ∧ k ≤ 100000000 ∧ KeepB (fun b => b = g) w w' := by
  have HB0 := hid ((Below.refl w.heap.size w).alloc (Nat.le_refl _) (.cells #[.string c.id, .string c.iss, .string c.sub, .int .i64 c.frm, .int .i64 c.til, .string c.whom, .string c.ans, .slice (some ⟨g, 0, none⟩) c.facts.length cap] 31))
  have CM := hid (cMarkAttrS g 0 cap c.facts.length 1 cu (w.alloc (.cells #[.string c.id, .string c.iss, .string c.sub, .int .i64 c.frm, .int .i64 c.til, .string c.whom, .string c.ans, .slice (some ⟨g, 0, none⟩) c.facts.length cap] 31)) (blk_below hg HB0.out) (cells_room hc) (by omega))
  unfold cmV
  clear hg hc
  obtain ⟨n, hnn⟩ : ∃ n, c.facts.length = n := ⟨_, rfl⟩
  rw [hnn] at CM HB0 hn ⊢
  clear hnn
  obtain ⟨K, hK⟩ : ∃ K, 1 + 2 * n = K := ⟨_, rfl⟩
  rw [hK] at CM
  have hK2 : K ≤ 100000000 := by omega
  clear hK
  go_enter Tryz.func10, Tryz.ntmps10
  go_wp2_with fail
  refine CM.out.mono ?_
  rintro e w1 ⟨rfl, _, hgr⟩
  have HK := hid ((KeepB.of_below (fun b => b = g) HB0.out).trans (KeepB.of_grown (p := fun b => b = g) hgr rfl))
  clear hgr CM
  go_wp2_with fail
  go_ret
  exact ⟨K, rfl, hK2, HK.out⟩

theorem qTx_sz (x : Int) : (qTx x).size ≤ 1048576 := by
  unfold qTx
  by_cases h : 0 ≤ x ∧ x ≤ 3155759999
  · obtain ⟨n, rfl⟩ : ∃ n : Nat, x = n := ⟨x.toNat, by omega⟩
    have h2 := isText_length (textOf_is (t := n) (by omega))
    show (textOf n).toArray.size ≤ 1048576
    rw [List.size_toArray]
    omega
  · unfold textOf
    rw [if_neg h]
    exact Nat.zero_le _

theorem addAll_six {name : ByteArray} : ∀ (l : List Say) (L : List Tk), (∀ t ∈ L, t.attrs.length ≤ 6) → (∀ x ∈ l, x.attrs.length ≤ 6) → ∀ t ∈ addAll L name l, t.attrs.length ≤ 6
  | [], L, h, _ => h
  | x :: l, L, h, hx => addAll_six l (addN L name x) (addN_all (P := fun t => t.attrs.length ≤ 6) h (hx x (by simp)) (Nat.zero_le _)) (fun y hy => hx y (by simp [hy]))

theorem txtL_six (s : ByteArray) : ∀ x ∈ txtL s, x.attrs.length ≤ 6 := by
  unfold txtL
  split
  · exact fun x hx => absurd hx List.not_mem_nil
  · intro x hx
    rw [List.mem_singleton] at hx
    subst hx
    exact Nat.zero_le _

theorem saysL_six (c : Cm) (u v : ByteArray) (k : Nat) : ∀ x ∈ saysL c u v k, x.attrs.length ≤ 6 := by
  match k with
  | 0 => exact txtL_six _
  | 1 => exact txtL_six _
  | 2 =>
    intro x hx
    have hx' : x = ⟨[⟨fromS, u⟩, ⟨toS, v⟩], nE⟩ := List.mem_singleton.1 hx
    subst hx'
    show (2 : Nat) ≤ 6
    decide
  | 3 => exact txtL_six _
  | 4 => exact txtL_six _
  | k + 5 =>
    intro x hx
    have hx' : x ∈ factL c.facts := hx
    unfold factL at hx'
    obtain ⟨f, hf, rfl⟩ := List.mem_map.1 hx'
    show (1 : Nat) ≤ 6
    decide

theorem treeTo_six (c : Cm) (u v : ByteArray) : ∀ k, ∀ t ∈ treeTo c u v k, t.attrs.length ≤ 6
  | 0 => fun t ht => by
    have ht' : t = headT c := List.mem_singleton.1 ht
    subst ht'
    show (2 : Nat) ≤ 6
    decide
  | k + 1 => addAll_six _ _ (treeTo_six c u v k) (saysL_six c u v k)

theorem claimT_ok {c : Cm} (hz : CmSz 1048576 c) : TksSz 1048576 (claimT c (qTx c.frm) (qTx c.til)) ∧ (∀ t ∈ claimT c (qTx c.frm) (qTx c.til), t.attrs.length ≤ 6) ∧ (claimT c (qTx c.frm) (qTx c.til)).length ≤ 12001 := by
  unfold claimT
  split
  · rename_i h
    have h4 := (claimB_parts h).2.2.2
    exact ⟨fun t ht => (treeTo_all hz (by omega) (qTx_sz _) (qTx_sz _) 6 (Nat.le_refl _) t ht).1, treeTo_six _ _ _ _, treeTo_len c _ _ (by omega) 6⟩
  · exact ⟨fun t ht => absurd ht List.not_mem_nil, fun t ht => absurd ht List.not_mem_nil, Nat.zero_le _⟩

theorem Nd.Row.rdQ {w : World} {B c : Nat} {a : Option Addr} {es : List Nd.E} {L : List Tk} (h : Nd.Row w B (.slice a es.length c) es) (hm : es.map (·.t) = L) : es.length = L.length ∧ TkRow w a L := by
  have hl : es.length = L.length := by rw [← hm, List.length_map]
  obtain ⟨a2, c2, e, ht⟩ := h.tkRow
  obtain ⟨rfl, rfl⟩ : a = a2 ∧ c = c2 := by cases e; exact ⟨rfl, rfl⟩
  rw [hm] at ht
  exact ⟨hl, ht⟩

theorem sumQ {L : List Tk} (h : ∀ t ∈ L, t.attrs.length ≤ 6) : Nd.sumA L ≤ 6 * L.length := by
  unfold Nd.sumA
  induction L with
  | nil => simp
  | cons t L ih =>
    have := ih (fun x hx => h x (List.mem_cons_of_mem _ hx))
    have h2 := h t (List.mem_cons_self ..)
    simp only [List.map_cons, List.sum_cons, List.length_cons]
    omega

end Go.Proofs.YtcjeodgfpnecgaaGreatDoor

namespace Go.Proofs.YtcjeodgfpnecgaaGreatDoor
open Go.RowKit
set_option linter.unusedVariables false
set_option linter.unusedSimpArgs false

set_option maxRecDepth 16000 in
set_option maxHeartbeats 16000000 in
theorem cClaimTreeI (c : Cm) (a : Option Addr) (cap : Nat) (w : World) (hR : AtRow w a c.facts) (hz : CmSz 1048576 c) (hL : Laid w) (hu : (qTx c.frm).size ≤ 1048576) (hv : (qTx c.til).size ≤ 1048576) :
    Calls Tryz.prog 21 #[cmV c a cap] w fun e w' => ∃ v, e = .returned v ∧ RowOf w w' v (claimT c (qTx c.frm) (qTx c.til)) := by
  have HX := hid (ClBox.new w c (.slice a c.facts.length cap) 31)
  have HB0 := hid ((Below.refl w.heap.size w).alloc (Nat.le_refl _) (.cells #[.string c.id, .string c.iss, .string c.sub, .int .i64 c.frm, .int .i64 c.til, .string c.whom, .string c.ans, .slice a c.facts.length cap] 31))
  have CO := hid (fun wx (h : Below w.heap.size w wx) => cClaimOkI c a cap wx (hR.below h) hz)
  have HP := hid (fun (h : claimB c = true) => (claimB_parts h).2.2.2)
  have HLD := hid hL
  have HRR := hid hR
  have HAL := hid (fun (h4 : c.facts.length ≤ 1000) => treeTo_all hz h4 hu hv 6 (Nat.le_refl _))
  have HLN := hid (fun (h4 : c.facts.length ≤ 1000) k => treeTo_len c (qTx c.frm) (qTx c.til) h4 k)
  have HKA := hid (fun (wx : World) (B g b0 b1 b3 b4 : Nat) (h : Kinds wx B g b0 b1 b3 b4) (hR : AtRow wx a c.facts) (h4 : c.facts.length ≤ 1000) (hL : Laid wx) (k : Nat) (hk : k < 6) => kind_at h c a cap hR h4 hL k hk)
  unfold claimT
  obtain ⟨T, hT⟩ : ∃ T : Nat → List Tk, treeTo c (qTx c.frm) (qTx c.til) = T := ⟨_, rfl⟩
  obtain ⟨Y, hY⟩ : ∃ Y : Nat → List Say, saysL c (qTx c.frm) (qTx c.til) = Y := ⟨_, rfl⟩
  have HT0 := hid (show T 0 = [headT c] by rw [← hT]; rfl)
  have HTS := hid (show ∀ k, T (k + 1) = addAll (T k) (kidN k) (Y k) by rw [← hT, ← hY]; exact fun k => rfl)
  have HYL := hid (fun (h4 : c.facts.length ≤ 1000) (k : Nat) => show (Y k).length ≤ 1000 by rw [← hY]; exact saysL_len _ _ _ k h4)
  rw [hT] at HAL HLN ⊢
  rw [hY] at HKA
  generalize claimB c = K at *
  unfold Told at HKA
  unfold cmV at *
  obtain ⟨w0, hw0⟩ : ∃ w0, w.alloc (.cells #[.string c.id, .string c.iss, .string c.sub, .int .i64 c.frm, .int .i64 c.til, .string c.whom, .string c.ans, .slice a c.facts.length cap] 31) = w0 := ⟨_, rfl⟩
  rw [hw0] at HX HB0
  obtain ⟨B, hB⟩ : ∃ B, w.heap.size = B := ⟨_, rfl⟩
  rw [hB] at HX
  clear hR hz hL hu hv hT hY
  obtain ⟨f0, f1, f2, f3, f4, f5, f6, f7⟩ := And.intro HX.out.c0 (And.intro HX.out.c1 (And.intro HX.out.c2 (And.intro HX.out.c3 (And.intro HX.out.c4 (And.intro HX.out.c5 (And.intro HX.out.c6 HX.out.c7))))))
  cases K with
  | false =>
    go_enter Tryz.func21, Tryz.ntmps21
    go_wp2_with fail
    refine (CO.out _ HB0.out).mono ?_
    rintro e w1 ⟨rfl, hb1⟩
    have HB1 := hid (bb HB0.out hb1)
    clear hb1 hw0 f0 f1 f2 f3 f4 f5 f6 f7
    go_wp2_with fail
    go_ret
    exact ⟨_, rfl, ⟨[], none, 0, rfl, Nd.Row.start0 _ _, rfl⟩, HB1.out⟩
  | true =>
    have h4 := HP.out rfl
    have HL6 := hid (HLN.out (by omega))
    have HA6 := hid (HAL.out (by omega))
    have HY6 := hid (HYL.out (by omega))
    have CN := hid (fun wx => cClaimName ⟨#[67, 108, 97, 105, 109]⟩ wx (by decide))
    have CD := hid cDecl
    clear HP HAL HLN HYL
    go_enter Tryz.func21, Tryz.ntmps21
    go_wp2_with fail
    refine (CO.out _ HB0.out).mono ?_
    rintro e w1 ⟨rfl, hb1⟩
    have HB1 := hid (bb HB0.out hb1)
    have HX1 := hid (HX.out.below hb1)
    have HZ1 := hid hb1
    clear hb1 hw0 f0 f1 f2 f3 f4 f5 f6 f7 CO
    go_upto_region 3 with fail
    go_cut [3] from 11 to 18 (fun v wv => Hid (KRow w0.heap.size wv v (T 0) ∧ Below w0.heap.size w0 wv))
    case first =>
      have HBc := hid ((Below.refl w1.heap.size w1).drew)
      have HSX := hid (show ∀ W', Below w1.heap.size w1 W' → W'.cell? ⟨B, 0, none⟩ = some (.string c.id) from fun W' hb => (HX1.out.below hb).c0)
      go_region_held3 (fun w' => w'.cell? ⟨B, 0, none⟩ = some (.string c.id)) (first | exact HSX.out _ HBc.out | exact HSX.out _ (HBc.out.alloc HBc.out.size _) | exact HSX.out _ ((HBc.out.alloc HBc.out.size _).alloc (HBc.out.alloc HBc.out.size _).size _))
        (first
          | (go_at_call 48; refine (CN.out _).mono ?_; rintro e w4 ⟨rfl, hb4⟩; replace HBc := hid (bb HBc.out hb4); clear hb4)
          | (go_at_call 38; refine (CD.out _).mono ?_; rintro e w5 ⟨rfl, hb5⟩; replace HBc := hid (bb HBc.out hb5); clear hb5))
      all_goals
        go_wp2_with fail
        go_meet
        have hq1 := HBc.out.size
        have hq2 := HZ1.out.size
        refine ⟨?_, bb HZ1.out ((HBc.out.alloc HBc.out.size _).alloc (HBc.out.alloc HBc.out.size _).size _)⟩
        rw [HT0.out]
        exact krow_head (by simp; omega) (by omega) (by omega) (by omega) (blk_alloc (heap_alloc_new _ _) _) (q_heap2 _ _ _)
    case rest =>
      have HR2 := hid hcut.out.1
      have HB2 := hid hcut.out.2
      clear hcut HZ1 HB1 HX1 CN CD
      have CK := hid cKidKinds
      go_wp2_with fail
      refine (CK.out _).mono ?_
      rintro e w3 ⟨g, b0, b1, b3, b4, rfl, hks, hb3⟩
      have HR3 := hid (HR2.out.below hb3)
      have HB3 := hid (bb HB2.out hb3)
      have HK3 := hid (show KindsV w3 u3 wc.heap.size g b0 b1 b3 b4 from ⟨hks, HR2.out.other (.inl hks.gB), HR2.out.other (.inl hks.B0), HR2.out.other (.inl hks.B1), HR2.out.other (.inl hks.B3), HR2.out.other (.inl hks.B4)⟩)
      obtain ⟨D, hD⟩ : ∃ D, wc.heap.size = D := ⟨_, rfl⟩
      rw [hD] at HK3
      clear hks hb3 HR2 HB2 CK hD
      go_wp2_with fail
      go_loopw [3, 21] (fun v x wr => ∃ k : Nat, x = .int .i64 (k : Int) ∧ k ≤ 6 ∧ Hid (KRow w0.heap.size wr v (T k)) ∧ Hid (KindsV wr v D g b0 b1 b3 b4) ∧ Hid (Below w0.heap.size w0 wr)) (fun _ x _ => 6 - (intOf x).toNat)
      case atStart => exact ⟨0, rfl, Nat.zero_le _, HR3.out, HK3.out, HB3.out⟩
      case round =>
        clear HR3 HK3 HB3
        obtain ⟨k, rfl, hk6, HR, HK, HB⟩ := hrel
        by_cases hlt : k < 6
        · have hki : (k : Int) < 6 := by omega
          have HBw := hid (bb HB0.out HB.out)
          obtain ⟨le, mo, F, C, F2, C2, ⟨k0, k1, k2, k3, k4⟩, ht1, ht2⟩ := HKA.out wr D g b0 b1 b3 b4 HK.out.ks (HRR.out.below HBw.out) (by omega) (HLD.out.below HBw.out) k hlt
          have HTL := hid ht2
          have HTN := hid (HTS.out k)
          have HYK := hid (HY6.out k)
          have HLK := hid (HL6.out k)
          have HCN := hid (cName_kid k hlt)
          have HLS := hid (localN_sz k)
          have HXr := hid (HX.out.below HB.out)
          have HBa := hid ((Below.refl wr.heap.size wr).alloc (Nat.le_refl _) (.cells #[.string (localN k), .int .i64 le, .int .i64 mo, .func (.func F) #[] C, .func (.func F2) #[] C2] 82))
          have Ha1 := hid (heap_alloc_new wr (.cells #[.string (localN k), .int .i64 le, .int .i64 mo, .func (.func F) #[] C, .func (.func F2) #[] C2] 82))
          obtain ⟨wa, hwa⟩ : ∃ wa, wr.alloc (.cells #[.string (localN k), .int .i64 le, .int .i64 mo, .func (.func F) #[] C, .func (.func F2) #[] C2] 82) = wa := ⟨_, rfl⟩
          rw [hwa] at HBa Ha1
          have HO := hid (HR.out.other (.inl (Nat.le_refl wr.heap.size)))
          obtain ⟨ka, hka⟩ : ∃ g, wr.heap.size = g := ⟨_, rfl⟩
          rw [hka] at Ha1 HO
          have HRa := hid (HR.out.below HBa.out)
          have HKa := hid (HK.out.kept (Kept.of_below HBa.out))
          have HBB := hid (bb HB.out HBa.out)
          have HXa := hid (HXr.out.below HBa.out)
          obtain ⟨⟨q0, q1, q2, q3, q4⟩, _⟩ := box5 Ha1.out
          obtain ⟨f0, f1, f2, f3, f4, f5, f6, f7⟩ := And.intro HXa.out.c0 (And.intro HXa.out.c1 (And.intro HXa.out.c2 (And.intro HXa.out.c3 (And.intro HXa.out.c4 (And.intro HXa.out.c5 (And.intro HXa.out.c6 HXa.out.c7))))))
          obtain ⟨m, hm⟩ : ∃ m, (Y k).length = m := ⟨_, rfl⟩
          have HM := hid hm
          rw [hm] at HTL HYK
          have hmk := HYK.out
          clear ht2 hm
          go_wp2_with fail
          refine (HTL.out _ HBa.out).mono ?_
          rintro e w4 ⟨a4, c4, rfl, hs4, hb4⟩
          have HR4 := hid (HRa.out.below hb4)
          have HK4 := hid (HKa.out.kept (Kept.of_below hb4))
          have HB4 := hid (bb HBB.out hb4)
          have HS4 := hid (SayK.of HRa.out hs4)
          have HA4 := hid (And.intro (blk_below Ha1.out hb4) HO.out)
          obtain ⟨wo, hwo⟩ : ∃ W, W = u3 := ⟨_, rfl⟩
          subst hwo
          clear hs4 hb4 HRa HKa HBB HTL Ha1 HBa HXa HXr HK HR HB HBw hwa hka ht1 k0 k1 k2 k3 k4 q0 q1 q2 q3 q4 f0 f1 f2 f3 f4 f5 f6 f7 HO
          go_wp2_with fail
          go_loopw [3, 30] (fun v x wr => ∃ j : Nat, x = .int .i64 (j : Int) ∧ j ≤ m ∧ Hid (KRow w0.heap.size wr v (addAll (T k) (kidN k) ((Y k).take j))) ∧ Hid (KindsV wr v D g b0 b1 b3 b4) ∧ Hid (SayK wr v a4 (Y k)) ∧ Hid (wr.heap[ka]? = some (.cells #[.string (localN k), .int .i64 le, .int .i64 mo, .func (.func F) #[] C, .func (.func F2) #[] C2] 82 (0, 0)) ∧ ¬ v.ownBlock = some ka) ∧ Hid (Below w0.heap.size w0 wr)) (fun _ x _ => m - (intOf x).toNat)
          case atStart => exact ⟨0, rfl, Nat.zero_le _, by rw [List.take_zero]; exact HR4.out, HK4.out, HS4.out, HA4.out, HB4.out⟩
          case round =>
            clear HR4 HK4 HS4 HA4 HB4
            obtain ⟨j, rfl, hj, HR, HK, HS, HA, HB⟩ := hrel
            by_cases hjl : j < m
            · have hjs : j < (Y k).length := by rw [HM.out]; exact hjl
              have hji : (j : Int) < (m : Int) := by omega
              obtain ⟨sb, cu, rfl, hsb, hnb, hat⟩ := HS.out (by omega)
              obtain ⟨aj, cj, y0, y1, hya⟩ := hat j hjs
              have HNX := hid (show addAll (T k) (kidN k) ((Y k).take (j + 1)) = addN (addAll (T k) (kidN k) ((Y k).take j)) (kidN k) (Y k)[j] by rw [List.take_succ_eq_append_getElem hjs, addAll_snoc])
              have hlen := (addAll_len (T k) (kidN k) ((Y k).take j)).2
              have HLE := hid (show (addAll (T k) (kidN k) ((Y k).take j)).length ≤ 100000 by
                rw [List.length_take] at hlen
                have := HYK.out
                have := HLK.out
                omega)
              have z0 : wr.cell? ⟨sb, j * 2, none⟩ = some (.slice aj (Y k)[j].attrs.length cj) := by rw [Lib.cell_of_heap hsb]; exact y0
              have z1 : wr.cell? ⟨sb, j * 2 + 1, none⟩ = some (.string (Y k)[j].text) := by rw [Lib.cell_of_heap hsb]; exact y1
              have HYA := hid hya
              have CWK := hid (fun wx (hr : KRow w0.heap.size wx u3 (addAll (T k) (kidN k) ((Y k).take j))) (ha : KAts wx u3 aj (Y k)[j].attrs) => cWithKid w0.heap.size wx u3 _ (localN k) (Y k)[j] aj cj hr ha HLS.out HLE.out)
              rw [HCN.out] at CWK
              generalize addAll (T k) (kidN k) ((Y k).take j) = L at *
              generalize (Y k)[j] = sy at *
              clear hlen hya hat y0 y1 hsb hnb hjs
              have HBa := hid ((Below.refl wr.heap.size wr).alloc (Nat.le_refl _) (.cells #[.slice aj sy.attrs.length cj, .string sy.text] 85))
              have Ha1 := hid (heap_alloc_new wr (.cells #[.slice aj sy.attrs.length cj, .string sy.text] 85))
              obtain ⟨wa, hwa⟩ : ∃ wa, wr.alloc (.cells #[.slice aj sy.attrs.length cj, .string sy.text] 85) = wa := ⟨_, rfl⟩
              rw [hwa] at HBa Ha1
              obtain ⟨⟨p0, p1⟩, _⟩ := q_box2 Ha1.out
              obtain ⟨⟨q0, q1, q2, q3, q4⟩, _⟩ := box5 (blk_below HA.out.1 HBa.out)
              have CW1 := hid (CWK.out wa (HR.out.below HBa.out) (HYA.out.below HBa.out))
              have HKE := hid (Kept.of_below (v := u3) HBa.out)
              have HBE := hid (bb HB.out HBa.out)
              clear CWK HBa Ha1 HYA
              go_wp2_with fail
              refine CW1.out.mono ?_
              rintro e w5 ⟨v5, rfl, hr5, hk5, hb5⟩
              have HR5 := hid (HNX.out ▸ hr5)
              have HK5 := hid (HK.out.kept (HKE.out.trans hk5))
              have HS5 := hid (HS.out.kept (HKE.out.trans hk5))
              have HA5 := hid ((HKE.out.trans hk5) _ _ HA.out.1 HA.out.2)
              have HB5 := hid (HBE.out.trans hb5)
              clear hr5 hk5 hb5 CW1 HKE HBE HR HK HS HA HB hwa p0 p1 q0 q1 q2 q3 q4 z0 z1
              go_wp2_with fail
              go_roundw
              case rel => exact ⟨j + 1, by go_num, by omega, HR5.out, HK5.out, HS5.out, HA5.out, HB5.out⟩
              case measure => simp [intOf]; omega
            · have hje : j = m := by omega
              subst hje
              have HRn := hid (show KRow w0.heap.size wr u3 (T (k + 1)) by
                rw [HTN.out]
                have h := HR.out
                rw [List.take_of_length_le (by rw [HM.out]; exact Nat.le_refl _)] at h
                exact h)
              clear HR HS HA
              go_wp2_with fail
              go_roundw
              case rel => exact ⟨k + 1, by go_num, by omega, HRn.out, HK.out, HB.out⟩
              case measure => simp [intOf]; omega
        · have hke : k = 6 := by omega
          subst hke
          obtain ⟨a9, c9, hv9, htk⟩ := HR.out.tk
          have CC := hid (cCopied a9 c9 (T 6) wr htk (by have := HL6.out 6; omega) (fun t ht => (HA6.out t ht).1) (fun t ht => by have := (HA6.out t ht).2; omega))
          subst hv9
          have HBw := hid (bb HB0.out HB.out)
          clear htk HK HR HB
          generalize (T 6).length = n6 at *
          go_wp2_with fail
          refine CC.out.mono ?_
          rintro e w5 ⟨c5, rfl, hr5⟩
          have HR5 := hid (RowOf.later HBw.out hr5)
          clear hr5 CC
          go_wp2_with fail
          go_ret
          exact ⟨_, rfl, HR5.out⟩

end Go.Proofs.YtcjeodgfpnecgaaGreatDoor

namespace Go.Proofs.YtcjeodgfpnecgaaGreatDoor
open Go.RowKit
set_option linter.unusedVariables false
set_option linter.unusedSimpArgs false

theorem Bx.drewN {wr W : World} {t : Tk} {nA c1 : Nat} {a1 : Option Addr} (h : Bx wr W t nA a1 c1) (n : Nat) : Bx wr (W.drewN n) t nA a1 c1 := ⟨below_drewN h.bel n, h.box, h.own⟩

/-- The last of such a row. -/
theorem RowOf.last {w wr : World} {v : Value} {L : List Tk} (h : RowOf w wr v L) : ∃ a8 c8, v = .slice a8 L.length c8 ∧ (0 < L.length → ∃ t, L[L.length - 1]? = some t) := by
  obtain ⟨a, c, e, _⟩ := h.tk
  exact ⟨a, c, e, fun h0 => ⟨L[L.length - 1], List.getElem?_eq_getElem (by omega)⟩⟩

end Go.Proofs.YtcjeodgfpnecgaaGreatDoor
