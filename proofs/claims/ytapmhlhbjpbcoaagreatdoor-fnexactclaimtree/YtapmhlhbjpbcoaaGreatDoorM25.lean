/- A claim that is marked: contract of the laws' markClaim; and how small the tree of a claim is. Contract of the program's ClaimTree: the walk. The walk of FnExactClaimTree. From the rows on texts to what their walks ask of the listed variables. -/
import Derived.Test.YtapmhlhbjpbcoaaGreatDoorM23
import Derived.Test.YtapmhlhbjpbcoaaGreatDoorM10
import Derived.Test.YtapmhlhbjpbcoaaGreatDoorM2
import Derived.Test.YtapmhlhbjpbcoaaGreatDoorM24
import Derived.Test.YtapmhlhbjpbcoaaGreatDoorM15
namespace Go.Proofs.YtapmhlhbjpbcoaaGreatDoor
open Go.RowKit
set_option linter.unusedVariables false
set_option linter.unusedSimpArgs false

theorem cells_room {cu : Array Value} {l : List At} (h : AtCells cu 0 l) : 0 + l.length * 2 ≤ cu.size := by
  rcases Nat.eq_zero_or_pos l.length with h0 | h0
  · omega
  · have h1 := (h (l.length - 1) (by omega)).2
    have h2 : 0 + (l.length - 1) * 2 + 1 < cu.size := by
      rcases Nat.lt_or_ge (0 + (l.length - 1) * 2 + 1) cu.size with h' | h'
      · exact h'
      · rw [Array.getElem?_eq_none h'] at h1
        cases h1
    omega

set_option maxHeartbeats 4000000 in
theorem cMarkClaim (c : Cm) (g cap : Nat) (cu : Array Value) (w : World) (hg : w.heap[g]? = some (.cells cu 48 (0, 0))) (hc : AtCells cu 0 c.facts) (hn : c.facts.length ≤ 1048576) :
    Calls Tryz.prog 11 #[cmV c (some ⟨g, 0, none⟩) cap, .int .i64 1] w fun e w' => ∃ k : Nat, e = .returned (.int .i64 (k : Int)) ∧ k ≤ 100000000 ∧ KeepB (fun b => b = g) w w' := by
  have HB0 := hid ((Below.refl w.heap.size w).alloc (Nat.le_refl _) (.cells #[.string c.id, .string c.iss, .string c.sub, .int .i64 c.frm, .int .i64 c.til, .string c.whom, .string c.ans, .slice (some ⟨g, 0, none⟩) c.facts.length cap] 30))
  have CM := hid (cMarkAttrS g 0 cap c.facts.length 1 cu (w.alloc (.cells #[.string c.id, .string c.iss, .string c.sub, .int .i64 c.frm, .int .i64 c.til, .string c.whom, .string c.ans, .slice (some ⟨g, 0, none⟩) c.facts.length cap] 30)) (blk_below hg HB0.out) (cells_room hc) (by omega))
  unfold cmV
  clear hg hc
  obtain ⟨n, hnn⟩ : ∃ n, c.facts.length = n := ⟨_, rfl⟩
  rw [hnn] at CM HB0 hn ⊢
  clear hnn
  obtain ⟨K, hK⟩ : ∃ K, 1 + 2 * n = K := ⟨_, rfl⟩
  rw [hK] at CM
  have hK2 : K ≤ 100000000 := by omega
  clear hK
  go_enter Tryz.func11, Tryz.ntmps11
  go_wp2_with fail
  refine CM.out.mono ?_
  rintro e w1 ⟨rfl, _, hgr⟩
  have HK := hid ((KeepB.of_below (fun b => b = g) HB0.out).trans (KeepB.of_grown (p := fun b => b = g) hgr rfl))
  clear hgr CM
  go_wp2_with fail
  go_ret
  exact ⟨K, rfl, hK2, HK.out⟩

theorem qTx_sz (x : Int) : (qTx x).size ≤ 1048576 := by
  unfold qTx
  by_cases h : 0 ≤ x ∧ x ≤ 3155759999
  · obtain ⟨n, rfl⟩ : ∃ n : Nat, x = n := ⟨x.toNat, by omega⟩
    have h2 := isText_length (textOf_is (t := n) (by omega))
    show (textOf n).toArray.size ≤ 1048576
    rw [List.size_toArray]
    omega
  · unfold textOf
    rw [if_neg h]
    exact Nat.zero_le _

theorem addAll_six {name : ByteArray} : ∀ (l : List Say) (L : List Tk), (∀ t ∈ L, t.attrs.length ≤ 6) → (∀ x ∈ l, x.attrs.length ≤ 6) → ∀ t ∈ addAll L name l, t.attrs.length ≤ 6
  | [], L, h, _ => h
  | x :: l, L, h, hx => addAll_six l (addN L name x) (addN_all (P := fun t => t.attrs.length ≤ 6) h (hx x (by simp)) (Nat.zero_le _)) (fun y hy => hx y (by simp [hy]))

theorem txtL_six (s : ByteArray) : ∀ x ∈ txtL s, x.attrs.length ≤ 6 := by
  unfold txtL
  split
  · exact fun x hx => absurd hx List.not_mem_nil
  · intro x hx
    rw [List.mem_singleton] at hx
    subst hx
    exact Nat.zero_le _

theorem saysL_six (c : Cm) (u v : ByteArray) (k : Nat) : ∀ x ∈ saysL c u v k, x.attrs.length ≤ 6 := by
  match k with
  | 0 => exact txtL_six _
  | 1 => exact txtL_six _
  | 2 =>
    intro x hx
    have hx' : x = ⟨[⟨fromS, u⟩, ⟨toS, v⟩], nE⟩ := List.mem_singleton.1 hx
    subst hx'
    show (2 : Nat) ≤ 6
    decide
  | 3 => exact txtL_six _
  | 4 => exact txtL_six _
  | k + 5 =>
    intro x hx
    have hx' : x ∈ factL c.facts := hx
    unfold factL at hx'
    obtain ⟨f, hf, rfl⟩ := List.mem_map.1 hx'
    show (1 : Nat) ≤ 6
    decide

theorem treeTo_six (c : Cm) (u v : ByteArray) : ∀ k, ∀ t ∈ treeTo c u v k, t.attrs.length ≤ 6
  | 0 => fun t ht => by
    have ht' : t = headT c := List.mem_singleton.1 ht
    subst ht'
    show (2 : Nat) ≤ 6
    decide
  | k + 1 => addAll_six _ _ (treeTo_six c u v k) (saysL_six c u v k)

theorem claimT_ok {c : Cm} (hz : CmSz 1048576 c) : TksSz 1048576 (claimT c (qTx c.frm) (qTx c.til)) ∧ (∀ t ∈ claimT c (qTx c.frm) (qTx c.til), t.attrs.length ≤ 6) ∧ (claimT c (qTx c.frm) (qTx c.til)).length ≤ 12001 := by
  unfold claimT
  split
  · rename_i h
    have h4 := (claimB_parts h).2.2.2
    exact ⟨fun t ht => (treeTo_all hz (by omega) (qTx_sz _) (qTx_sz _) 6 (Nat.le_refl _) t ht).1, treeTo_six _ _ _ _, treeTo_len c _ _ (by omega) 6⟩
  · exact ⟨fun t ht => absurd ht List.not_mem_nil, fun t ht => absurd ht List.not_mem_nil, Nat.zero_le _⟩

theorem Nd.Row.rdQ {w : World} {B c : Nat} {a : Option Addr} {es : List Nd.E} {L : List Tk} (h : Nd.Row w B (.slice a es.length c) es) (hm : es.map (·.t) = L) : es.length = L.length ∧ TkRow w a L := by
  have hl : es.length = L.length := by rw [← hm, List.length_map]
  obtain ⟨a2, c2, e, ht⟩ := h.tkRow
  obtain ⟨rfl, rfl⟩ : a = a2 ∧ c = c2 := by cases e; exact ⟨rfl, rfl⟩
  rw [hm] at ht
  exact ⟨hl, ht⟩

theorem sumQ {L : List Tk} (h : ∀ t ∈ L, t.attrs.length ≤ 6) : Nd.sumA L ≤ 6 * L.length := by
  unfold Nd.sumA
  induction L with
  | nil => simp
  | cons t L ih =>
    have := ih (fun x hx => h x (List.mem_cons_of_mem _ hx))
    have h2 := h t (List.mem_cons_self ..)
    simp only [List.map_cons, List.sum_cons, List.length_cons]
    omega

end Go.Proofs.YtapmhlhbjpbcoaaGreatDoor

namespace Go.Proofs.YtapmhlhbjpbcoaaGreatDoor
open Go.RowKit
set_option linter.unusedVariables false
set_option linter.unusedSimpArgs false

set_option maxRecDepth 16000 in
set_option maxHeartbeats 16000000 in
theorem cClaimTreeI (c : Cm) (a : Option Addr) (cap : Nat) (w : World) (hR : AtRow w a c.facts) (hz : CmSz 1048576 c) (hL : Laid w) (hu : (qTx c.frm).size ≤ 1048576) (hv : (qTx c.til).size ≤ 1048576) :
    Calls Tryz.prog 8 #[cmV c a cap] w fun e w' => ∃ v, e = .returned v ∧ RowOf w w' v (claimT c (qTx c.frm) (qTx c.til)) := by
  have HX := hid (ClBox.new w c (.slice a c.facts.length cap) 30)
  have HB0 := hid ((Below.refl w.heap.size w).alloc (Nat.le_refl _) (.cells #[.string c.id, .string c.iss, .string c.sub, .int .i64 c.frm, .int .i64 c.til, .string c.whom, .string c.ans, .slice a c.facts.length cap] 30))
  have CO := hid (fun wx (h : Below w.heap.size w wx) => cClaimOkI c a cap wx (hR.below h) hz)
  have HP := hid (fun (h : claimB c = true) => (claimB_parts h).2.2.2)
  have HLD := hid hL
  have HRR := hid hR
  have HAL := hid (fun (h4 : c.facts.length ≤ 1000) => treeTo_all hz h4 hu hv 6 (Nat.le_refl _))
  have HLN := hid (fun (h4 : c.facts.length ≤ 1000) k => treeTo_len c (qTx c.frm) (qTx c.til) h4 k)
  have HKA := hid (fun (wx : World) (B g b0 b1 b3 b4 : Nat) (h : Kinds wx B g b0 b1 b3 b4) (hR : AtRow wx a c.facts) (h4 : c.facts.length ≤ 1000) (hL : Laid wx) (k : Nat) (hk : k < 6) => kind_at h c a cap hR h4 hL k hk)
  unfold claimT
  obtain ⟨T, hT⟩ : ∃ T : Nat → List Tk, treeTo c (qTx c.frm) (qTx c.til) = T := ⟨_, rfl⟩
  obtain ⟨Y, hY⟩ : ∃ Y : Nat → List Say, saysL c (qTx c.frm) (qTx c.til) = Y := ⟨_, rfl⟩
  have HT0 := hid (show T 0 = [headT c] by rw [← hT]; rfl)
  have HTS := hid (show ∀ k, T (k + 1) = addAll (T k) (kidN k) (Y k) by rw [← hT, ← hY]; exact fun k => rfl)
  have HYL := hid (fun (h4 : c.facts.length ≤ 1000) (k : Nat) => show (Y k).length ≤ 1000 by rw [← hY]; exact saysL_len _ _ _ k h4)
  rw [hT] at HAL HLN ⊢
  rw [hY] at HKA
  generalize claimB c = K at *
  unfold Told at HKA
  unfold cmV at *
  obtain ⟨w0, hw0⟩ : ∃ w0, w.alloc (.cells #[.string c.id, .string c.iss, .string c.sub, .int .i64 c.frm, .int .i64 c.til, .string c.whom, .string c.ans, .slice a c.facts.length cap] 30) = w0 := ⟨_, rfl⟩
  rw [hw0] at HX HB0
  obtain ⟨B, hB⟩ : ∃ B, w.heap.size = B := ⟨_, rfl⟩
  rw [hB] at HX
  clear hR hz hL hu hv hT hY
  obtain ⟨f0, f1, f2, f3, f4, f5, f6, f7⟩ := And.intro HX.out.c0 (And.intro HX.out.c1 (And.intro HX.out.c2 (And.intro HX.out.c3 (And.intro HX.out.c4 (And.intro HX.out.c5 (And.intro HX.out.c6 HX.out.c7))))))
  cases K with
  | false =>
    go_enter Tryz.func8, Tryz.ntmps8
    go_wp2_with fail
    refine (CO.out _ HB0.out).mono ?_
    rintro e w1 ⟨rfl, hb1⟩
    have HB1 := hid (bb HB0.out hb1)
    clear hb1 hw0 f0 f1 f2 f3 f4 f5 f6 f7
    go_wp2_with fail
    go_ret
    exact ⟨_, rfl, ⟨[], none, 0, rfl, Nd.Row.start0 _ _, rfl⟩, HB1.out⟩
  | true =>
    have h4 := HP.out rfl
    have HL6 := hid (HLN.out (by omega))
    have HA6 := hid (HAL.out (by omega))
    have HY6 := hid (HYL.out (by omega))
    have CN := hid (fun wx => cClaimName ⟨#[67, 108, 97, 105, 109]⟩ wx (by decide))
    have CD := hid cDecl
    clear HP HAL HLN HYL
    go_enter Tryz.func8, Tryz.ntmps8
    go_wp2_with fail
    refine (CO.out _ HB0.out).mono ?_
    rintro e w1 ⟨rfl, hb1⟩
    have HB1 := hid (bb HB0.out hb1)
    have HX1 := hid (HX.out.below hb1)
    have HZ1 := hid hb1
    clear hb1 hw0 f0 f1 f2 f3 f4 f5 f6 f7 CO
    go_upto_region 3 with fail
    go_cut [3] from 11 to 18 (fun v wv => Hid (KRow w0.heap.size wv v (T 0) ∧ Below w0.heap.size w0 wv))
    case first =>
      have HBc := hid ((Below.refl w1.heap.size w1).drew)
      have HSX := hid (show ∀ W', Below w1.heap.size w1 W' → W'.cell? ⟨B, 0, none⟩ = some (.string c.id) from fun W' hb => (HX1.out.below hb).c0)
      go_region_held3 (fun w' => w'.cell? ⟨B, 0, none⟩ = some (.string c.id)) (first | exact HSX.out _ HBc.out | exact HSX.out _ (HBc.out.alloc HBc.out.size _) | exact HSX.out _ ((HBc.out.alloc HBc.out.size _).alloc (HBc.out.alloc HBc.out.size _).size _))
        (first
          | (go_at_call 24; refine (CN.out _).mono ?_; rintro e w4 ⟨rfl, hb4⟩; replace HBc := hid (bb HBc.out hb4); clear hb4)
          | (go_at_call 25; refine (CD.out _).mono ?_; rintro e w5 ⟨rfl, hb5⟩; replace HBc := hid (bb HBc.out hb5); clear hb5))
      all_goals
        go_wp2_with fail
        go_meet
        have hq1 := HBc.out.size
        have hq2 := HZ1.out.size
        refine ⟨?_, bb HZ1.out ((HBc.out.alloc HBc.out.size _).alloc (HBc.out.alloc HBc.out.size _).size _)⟩
        rw [HT0.out]
        exact krow_head (by simp; omega) (by omega) (by omega) (by omega) (blk_alloc (heap_alloc_new _ _) _) (q_heap2 _ _ _)
    case rest =>
      have HR2 := hid hcut.out.1
      have HB2 := hid hcut.out.2
      clear hcut HZ1 HB1 HX1 CN CD
      have CK := hid cKidKinds
      go_wp2_with fail
      refine (CK.out _).mono ?_
      rintro e w3 ⟨g, b0, b1, b3, b4, rfl, hks, hb3⟩
      have HR3 := hid (HR2.out.below hb3)
      have HB3 := hid (bb HB2.out hb3)
      have HK3 := hid (show KindsV w3 u3 wc.heap.size g b0 b1 b3 b4 from ⟨hks, HR2.out.other (.inl hks.gB), HR2.out.other (.inl hks.B0), HR2.out.other (.inl hks.B1), HR2.out.other (.inl hks.B3), HR2.out.other (.inl hks.B4)⟩)
      obtain ⟨D, hD⟩ : ∃ D, wc.heap.size = D := ⟨_, rfl⟩
      rw [hD] at HK3
      clear hks hb3 HR2 HB2 CK hD
      go_wp2_with fail
      go_loopw [3, 21] (fun v x wr => ∃ k : Nat, x = .int .i64 (k : Int) ∧ k ≤ 6 ∧ Hid (KRow w0.heap.size wr v (T k)) ∧ Hid (KindsV wr v D g b0 b1 b3 b4) ∧ Hid (Below w0.heap.size w0 wr)) (fun _ x _ => 6 - (intOf x).toNat)
      case atStart => exact ⟨0, rfl, Nat.zero_le _, HR3.out, HK3.out, HB3.out⟩
      case round =>
        clear HR3 HK3 HB3
        obtain ⟨k, rfl, hk6, HR, HK, HB⟩ := hrel
        by_cases hlt : k < 6
        · have hki : (k : Int) < 6 := by omega
          have HBw := hid (bb HB0.out HB.out)
          obtain ⟨le, mo, F, C, F2, C2, ⟨k0, k1, k2, k3, k4⟩, ht1, ht2⟩ := HKA.out wr D g b0 b1 b3 b4 HK.out.ks (HRR.out.below HBw.out) (by omega) (HLD.out.below HBw.out) k hlt
          have HTL := hid ht2
          have HTN := hid (HTS.out k)
          have HYK := hid (HY6.out k)
          have HLK := hid (HL6.out k)
          have HCN := hid (cName_kid k hlt)
          have HLS := hid (localN_sz k)
          have HXr := hid (HX.out.below HB.out)
          have HBa := hid ((Below.refl wr.heap.size wr).alloc (Nat.le_refl _) (.cells #[.string (localN k), .int .i64 le, .int .i64 mo, .func (.func F) #[] C, .func (.func F2) #[] C2] 57))
          have Ha1 := hid (heap_alloc_new wr (.cells #[.string (localN k), .int .i64 le, .int .i64 mo, .func (.func F) #[] C, .func (.func F2) #[] C2] 57))
          obtain ⟨wa, hwa⟩ : ∃ wa, wr.alloc (.cells #[.string (localN k), .int .i64 le, .int .i64 mo, .func (.func F) #[] C, .func (.func F2) #[] C2] 57) = wa := ⟨_, rfl⟩
          rw [hwa] at HBa Ha1
          have HO := hid (HR.out.other (.inl (Nat.le_refl wr.heap.size)))
          obtain ⟨ka, hka⟩ : ∃ g, wr.heap.size = g := ⟨_, rfl⟩
          rw [hka] at Ha1 HO
          have HRa := hid (HR.out.below HBa.out)
          have HKa := hid (HK.out.kept (Kept.of_below HBa.out))
          have HBB := hid (bb HB.out HBa.out)
          have HXa := hid (HXr.out.below HBa.out)
          obtain ⟨⟨q0, q1, q2, q3, q4⟩, _⟩ := box5 Ha1.out
          obtain ⟨f0, f1, f2, f3, f4, f5, f6, f7⟩ := And.intro HXa.out.c0 (And.intro HXa.out.c1 (And.intro HXa.out.c2 (And.intro HXa.out.c3 (And.intro HXa.out.c4 (And.intro HXa.out.c5 (And.intro HXa.out.c6 HXa.out.c7))))))
          obtain ⟨m, hm⟩ : ∃ m, (Y k).length = m := ⟨_, rfl⟩
          have HM := hid hm
          rw [hm] at HTL HYK
          have hmk := HYK.out
          clear ht2 hm
          go_wp2_with fail
          refine (HTL.out _ HBa.out).mono ?_
          rintro e w4 ⟨a4, c4, rfl, hs4, hb4⟩
          have HR4 := hid (HRa.out.below hb4)
          have HK4 := hid (HKa.out.kept (Kept.of_below hb4))
          have HB4 := hid (bb HBB.out hb4)
          have HS4 := hid (SayK.of HRa.out hs4)
          have HA4 := hid (And.intro (blk_below Ha1.out hb4) HO.out)
          obtain ⟨wo, hwo⟩ : ∃ W, W = u3 := ⟨_, rfl⟩
          subst hwo
          clear hs4 hb4 HRa HKa HBB HTL Ha1 HBa HXa HXr HK HR HB HBw hwa hka ht1 k0 k1 k2 k3 k4 q0 q1 q2 q3 q4 f0 f1 f2 f3 f4 f5 f6 f7 HO
          go_wp2_with fail
          go_loopw [3, 30] (fun v x wr => ∃ j : Nat, x = .int .i64 (j : Int) ∧ j ≤ m ∧ Hid (KRow w0.heap.size wr v (addAll (T k) (kidN k) ((Y k).take j))) ∧ Hid (KindsV wr v D g b0 b1 b3 b4) ∧ Hid (SayK wr v a4 (Y k)) ∧ Hid (wr.heap[ka]? = some (.cells #[.string (localN k), .int .i64 le, .int .i64 mo, .func (.func F) #[] C, .func (.func F2) #[] C2] 57 (0, 0)) ∧ ¬ v.ownBlock = some ka) ∧ Hid (Below w0.heap.size w0 wr)) (fun _ x _ => m - (intOf x).toNat)
          case atStart => exact ⟨0, rfl, Nat.zero_le _, by rw [List.take_zero]; exact HR4.out, HK4.out, HS4.out, HA4.out, HB4.out⟩
          case round =>
            clear HR4 HK4 HS4 HA4 HB4
            obtain ⟨j, rfl, hj, HR, HK, HS, HA, HB⟩ := hrel
            by_cases hjl : j < m
            · have hjs : j < (Y k).length := by rw [HM.out]; exact hjl
              have hji : (j : Int) < (m : Int) := by omega
              obtain ⟨sb, cu, rfl, hsb, hnb, hat⟩ := HS.out (by omega)
              obtain ⟨aj, cj, y0, y1, hya⟩ := hat j hjs
              have HNX := hid (show addAll (T k) (kidN k) ((Y k).take (j + 1)) = addN (addAll (T k) (kidN k) ((Y k).take j)) (kidN k) (Y k)[j] by rw [List.take_succ_eq_append_getElem hjs, addAll_snoc])
              have hlen := (addAll_len (T k) (kidN k) ((Y k).take j)).2
              have HLE := hid (show (addAll (T k) (kidN k) ((Y k).take j)).length ≤ 100000 by
                rw [List.length_take] at hlen
                have := HYK.out
                have := HLK.out
                omega)
              have z0 : wr.cell? ⟨sb, j * 2, none⟩ = some (.slice aj (Y k)[j].attrs.length cj) := by rw [Lib.cell_of_heap hsb]; exact y0
              have z1 : wr.cell? ⟨sb, j * 2 + 1, none⟩ = some (.string (Y k)[j].text) := by rw [Lib.cell_of_heap hsb]; exact y1
              have HYA := hid hya
              have CWK := hid (fun wx (hr : KRow w0.heap.size wx u3 (addAll (T k) (kidN k) ((Y k).take j))) (ha : KAts wx u3 aj (Y k)[j].attrs) => cWithKid w0.heap.size wx u3 _ (localN k) (Y k)[j] aj cj hr ha HLS.out HLE.out)
              rw [HCN.out] at CWK
              generalize addAll (T k) (kidN k) ((Y k).take j) = L at *
              generalize (Y k)[j] = sy at *
              clear hlen hya hat y0 y1 hsb hnb hjs
              have HBa := hid ((Below.refl wr.heap.size wr).alloc (Nat.le_refl _) (.cells #[.slice aj sy.attrs.length cj, .string sy.text] 60))
              have Ha1 := hid (heap_alloc_new wr (.cells #[.slice aj sy.attrs.length cj, .string sy.text] 60))
              obtain ⟨wa, hwa⟩ : ∃ wa, wr.alloc (.cells #[.slice aj sy.attrs.length cj, .string sy.text] 60) = wa := ⟨_, rfl⟩
              rw [hwa] at HBa Ha1
              obtain ⟨⟨p0, p1⟩, _⟩ := q_box2 Ha1.out
              obtain ⟨⟨q0, q1, q2, q3, q4⟩, _⟩ := box5 (blk_below HA.out.1 HBa.out)
              have CW1 := hid (CWK.out wa (HR.out.below HBa.out) (HYA.out.below HBa.out))
              have HKE := hid (Kept.of_below (v := u3) HBa.out)
              have HBE := hid (bb HB.out HBa.out)
              clear CWK HBa Ha1 HYA
              go_wp2_with fail
              refine CW1.out.mono ?_
              rintro e w5 ⟨v5, rfl, hr5, hk5, hb5⟩
              have HR5 := hid (HNX.out ▸ hr5)
              have HK5 := hid (HK.out.kept (HKE.out.trans hk5))
              have HS5 := hid (HS.out.kept (HKE.out.trans hk5))
              have HA5 := hid ((HKE.out.trans hk5) _ _ HA.out.1 HA.out.2)
              have HB5 := hid (HBE.out.trans hb5)
              clear hr5 hk5 hb5 CW1 HKE HBE HR HK HS HA HB hwa p0 p1 q0 q1 q2 q3 q4 z0 z1
              go_wp2_with fail
              go_roundw
              case rel => exact ⟨j + 1, by go_num, by omega, HR5.out, HK5.out, HS5.out, HA5.out, HB5.out⟩
              case measure => simp [intOf]; omega
            · have hje : j = m := by omega
              subst hje
              have HRn := hid (show KRow w0.heap.size wr u3 (T (k + 1)) by
                rw [HTN.out]
                have h := HR.out
                rw [List.take_of_length_le (by rw [HM.out]; exact Nat.le_refl _)] at h
                exact h)
              clear HR HS HA
              go_wp2_with fail
              go_roundw
              case rel => exact ⟨k + 1, by go_num, by omega, HRn.out, HK.out, HB.out⟩
              case measure => simp [intOf]; omega
        · have hke : k = 6 := by omega
          subst hke
          obtain ⟨a9, c9, hv9, htk⟩ := HR.out.tk
          have CC := hid (cCopied a9 c9 (T 6) wr htk (by have := HL6.out 6; omega) (fun t ht => (HA6.out t ht).1) (fun t ht => by have := (HA6.out t ht).2; omega))
          subst hv9
          have HBw := hid (bb HB0.out HB.out)
          clear htk HK HR HB
          generalize (T 6).length = n6 at *
          go_wp2_with fail
          refine CC.out.mono ?_
          rintro e w5 ⟨c5, rfl, hr5⟩
          have HR5 := hid (RowOf.later HBw.out hr5)
          clear hr5 CC
          go_wp2_with fail
          go_ret
          exact ⟨_, rfl, HR5.out⟩

end Go.Proofs.YtapmhlhbjpbcoaaGreatDoor

namespace Go.Proofs.YtapmhlhbjpbcoaaGreatDoor
open Go.RowKit
set_option linter.unusedVariables false
set_option linter.unusedSimpArgs false

set_option maxRecDepth 16000 in
set_option maxHeartbeats 16000000 in
theorem walk_claimTree (c0 : Cm) (a0 : Option Addr) (cap0 : Nat) (w : World) (wr0 : AtRow w a0 c0.facts) (wz0 : CmSz maxLen c0) (hM : Laid w) :
    Calls Tryz.prog 3 #[cmV c0 a0 cap0] w fun e w' => e = .returned (.bool true) ∧ Below w.heap.size w w' := by
  have C0 := hid (fun wx (h : Below w.heap.size w wx) => cSzClaim c0 a0 cap0 wx (wr0.below h) wz0)
  have HX := hid (ClBox.new w c0 (.slice a0 c0.facts.length cap0) 24)
  have HB0 := hid ((Below.refl w.heap.size w).alloc (Nat.le_refl _) (.cells #[.string c0.id, .string c0.iss, .string c0.sub, .int .i64 c0.frm, .int .i64 c0.til, .string c0.whom, .string c0.ans, .slice a0 c0.facts.length cap0] 24))
  have HR := hid wr0
  have HMM := hid hM
  clear wr0 wz0 hM
  unfold cmV at C0 ⊢
  obtain ⟨w0, hw0⟩ : ∃ w0, w.alloc (.cells #[.string c0.id, .string c0.iss, .string c0.sub, .int .i64 c0.frm, .int .i64 c0.til, .string c0.whom, .string c0.ans, .slice a0 c0.facts.length cap0] 24) = w0 := ⟨_, rfl⟩
  rw [hw0] at HX HB0
  obtain ⟨B, hB⟩ : ∃ B, w.heap.size = B := ⟨_, rfl⟩
  rw [hB] at HX
  obtain ⟨f0, f1, f2, f3, f4, f5, f6, f7⟩ := And.intro HX.out.c0 (And.intro HX.out.c1 (And.intro HX.out.c2 (And.intro HX.out.c3 (And.intro HX.out.c4 (And.intro HX.out.c5 (And.intro HX.out.c6 HX.out.c7))))))
  go_enter Tryz.func3, Tryz.ntmps3
  go_wp2_with fail
  refine (C0.out _ HB0.out).mono ?_
  rintro e w1 ⟨r, rfl, hr, hb1⟩
  have HB1 := hid (bb HB0.out hb1)
  have HX1 := hid (HX.out.below hb1)
  clear hb1 C0 hw0 f0 f1 f2 f3 f4 f5 f6 f7 HX HB0
  rcases hr with rfl | ⟨h0, hz⟩
  · go_wp2_with fail
    go_ret
    exact ⟨rfl, hB ▸ HB1.out⟩
  have hd2 : decide (r < 0) = false := by simp; omega
  have CT := hid (fun (wx : World) (h : AtRow wx a0 c0.facts) => cToClaimC c0 a0 cap0 wx h hz.2.2.2.2.2.1)
  have CS := hid (fun (g : Nat) (wx : World) (h : AtRow wx (some ⟨g, 0, none⟩) c0.facts) => cClaimTreeS c0 (some ⟨g, 0, none⟩) c0.facts.length wx h hz)
  have CI := hid (fun (g : Nat) (wx : World) (h : AtRow wx (some ⟨g, 0, none⟩) c0.facts) (hl : Laid wx) => cClaimTreeI c0 (some ⟨g, 0, none⟩) c0.facts.length wx h hz hl (qTx_sz _) (qTx_sz _))
  have CE := hid (fun (g g2 : Nat) (wx : World) (h : AtRow wx (some ⟨g, 0, none⟩) c0.facts) (h2 : AtRow wx (some ⟨g2, 0, none⟩) c0.facts) => cEqClaim c0 (some ⟨g, 0, none⟩) (some ⟨g2, 0, none⟩) c0.facts.length c0.facts.length wx h h2 hz.2.2.2.2.2.2 hz.2.2.2.2.2.1)
  have CMC := hid (fun (g : Nat) (cu : Array Value) (wx : World) (hg : wx.heap[g]? = some (.cells cu 48 (0, 0))) (hc : AtCells cu 0 c0.facts) => cMarkClaim c0 g c0.facts.length cu wx hg hc hz.2.2.2.2.2.1)
  have HR1 := hid (HR.out.below HB1.out)
  have HLZ := hid (claimT_ok hz).1
  have HL6 := hid (claimT_ok hz).2.1
  have hL100 := (claimT_ok hz).2.2
  obtain ⟨L, hL⟩ : ∃ L, claimT c0 (qTx c0.frm) (qTx c0.til) = L := ⟨_, rfl⟩
  rw [hL] at CS CI HLZ HL6 hL100
  have CQ := hid (fun (x y : Option Addr) (cx cy : Nat) (wx : World) (h : TkRow wx x L) (h2 : TkRow wx y L) => Nd.cEqNodeS x y cx cy L wx h h2 HLZ.out (by omega))
  have HSL := hid (sumQ HL6.out)
  obtain ⟨ln, hln⟩ : ∃ ln, L.length = ln := ⟨_, rfl⟩
  have HLN := hid hln
  rw [hln] at CQ hL100 HSL
  clear hz HR hL hln
  unfold cmV at CT CS CI CE CMC
  obtain ⟨f0, f1, f2, f3, f4, f5, f6, f7⟩ := And.intro HX1.out.c0 (And.intro HX1.out.c1 (And.intro HX1.out.c2 (And.intro HX1.out.c3 (And.intro HX1.out.c4 (And.intro HX1.out.c5 (And.intro HX1.out.c6 HX1.out.c7))))))
  go_wp2_with fail
  refine (CT.out _ HR1.out).mono ?_
  rintro e w2 ⟨g, cu2, _, rfl, hh2, hc2, hb2⟩
  have S2 := hid (hc2.atRow hh2)
  have HB2 := hid (bb HB1.out hb2)
  have HX2 := hid (HX1.out.below hb2)
  have HR2 := hid (HR1.out.below hb2)
  clear hb2 hh2 hc2 HB1 HX1 HR1 f0 f1 f2 f3 f4 f5 f6 f7
  go_wp2_with fail
  refine (CS.out g _ S2.out).mono ?_
  rintro e w3 ⟨v3, rfl, hr3⟩
  have hb3 := hr3.bel
  obtain ⟨a3, c3, hv3, ht3⟩ := hr3.tk
  subst hv3
  clear hr3
  have HT3 := hid ht3
  have HB3 := hid (bb HB2.out hb3)
  have HX3 := hid (HX2.out.below hb3)
  have HR3 := hid (HR2.out.below hb3)
  rw [HLN.out]
  clear hb3 ht3 HB2 HX2 HR2 S2 CS
  obtain ⟨f0, f1, f2, f3, f4, f5, f6, f7⟩ := And.intro HX3.out.c0 (And.intro HX3.out.c1 (And.intro HX3.out.c2 (And.intro HX3.out.c3 (And.intro HX3.out.c4 (And.intro HX3.out.c5 (And.intro HX3.out.c6 HX3.out.c7))))))
  go_wp2_with fail
  refine (CT.out _ HR3.out).mono ?_
  rintro e w4 ⟨g4, cu4, hg4, rfl, hh4, hc4, hb4⟩
  have HG4 := hid hg4
  have HY := hid (ClBox.new w4 c0 (.slice (some ⟨g4, 0, none⟩) c0.facts.length c0.facts.length) 30)
  have HZ := hid ((Below.refl w4.heap.size w4).alloc (Nat.le_refl _) (.cells #[.string c0.id, .string c0.iss, .string c0.sub, .int .i64 c0.frm, .int .i64 c0.til, .string c0.whom, .string c0.ans, .slice (some ⟨g4, 0, none⟩) c0.facts.length c0.facts.length] 30))
  obtain ⟨w5, hw5⟩ : ∃ w5, w4.alloc (.cells #[.string c0.id, .string c0.iss, .string c0.sub, .int .i64 c0.frm, .int .i64 c0.til, .string c0.whom, .string c0.ans, .slice (some ⟨g4, 0, none⟩) c0.facts.length c0.facts.length] 30) = w5 := ⟨_, rfl⟩
  rw [hw5] at HY HZ
  have D5 := hid (bb hb4 HZ.out)
  have M5 := hid (blk_below hh4 HZ.out)
  have MC := hid hc4
  have S5 := hid (hc4.atRow M5.out)
  have HGL := hid (show g4 < w5.heap.size from lt_of_heap M5.out)
  have HW35 := hid D5.out.size
  clear hb4 hh4 hc4 hg4 HZ f0 f1 f2 f3 f4 f5 f6 f7
  obtain ⟨B2, hB2⟩ : ∃ B, w4.heap.size = B := ⟨_, rfl⟩
  rw [hB2] at HY
  obtain ⟨y0, y1, y2, y3, y4, y5, y6, y7⟩ := And.intro HY.out.c0 (And.intro HY.out.c1 (And.intro HY.out.c2 (And.intro HY.out.c3 (And.intro HY.out.c4 (And.intro HY.out.c5 (And.intro HY.out.c6 HY.out.c7))))))
  have HLD := hid (HMM.out.below (bb HB3.out D5.out))
  go_wp2_with fail
  refine (CI.out g4 _ S5.out HLD.out).mono ?_
  rintro e w6 ⟨v6, rfl, hq6⟩
  have hb6 := hq6.bel
  obtain ⟨es5, a5, c5, hv5, hr5, hm5, _⟩ := hq6.open
  subst hv5
  clear hq6
  have hl5 : es5.length = L.length := (hr5.rdQ hm5).1
  rw [HLN.out] at hl5
  have HL5 := hid hl5
  have R6 := hid hr5
  have HM5 := hid hm5
  have D6 := hid (bb D5.out hb6)
  have S6 := hid (S5.out.below hb6)
  have M6 := hid (blk_below M5.out hb6)
  have HY6 := hid (HY.out.below hb6)
  rw [hl5]
  clear hr5 hm5 hb6 hl5 S5 HY M5 hw5 hB2 y0 y1 y2 y3 y4 y5 y6 y7
  go_wp2_with fail
  refine (CQ.out a5 a3 c5 c3 _ (R6.out.rdQ HM5.out).2 (HT3.out.below D6.out)).mono ?_
  rintro e w7 ⟨rfl, hb7⟩
  have R7 := hid (R6.out.below hb7)
  have D7 := hid (bb D6.out hb7)
  have S7 := hid (S6.out.below hb7)
  have M7 := hid (blk_below M6.out hb7)
  have HY7 := hid (HY6.out.below hb7)
  have HX7 := hid (HX3.out.below D7.out)
  have HR7 := hid (HR3.out.below D7.out)
  clear hb7 R6 S6 M6 HY6
  obtain ⟨f0, f1, f2, f3, f4, f5, f6, f7⟩ := And.intro HX7.out.c0 (And.intro HX7.out.c1 (And.intro HX7.out.c2 (And.intro HX7.out.c3 (And.intro HX7.out.c4 (And.intro HX7.out.c5 (And.intro HX7.out.c6 HX7.out.c7))))))
  obtain ⟨y0, y1, y2, y3, y4, y5, y6, y7⟩ := And.intro HY7.out.c0 (And.intro HY7.out.c1 (And.intro HY7.out.c2 (And.intro HY7.out.c3 (And.intro HY7.out.c4 (And.intro HY7.out.c5 (And.intro HY7.out.c6 HY7.out.c7))))))
  go_wp2_with fail
  have HBc := hid ((Below.refl w7.heap.size w7).drew)
  have HSX := hid (show ∀ W', Below w7.heap.size w7 W' → W'.cell? ⟨B, 0, none⟩ = some (.string c0.id) ∧ W'.cell? ⟨B, 1, none⟩ = some (.string c0.iss) ∧ W'.cell? ⟨B, 2, none⟩ = some (.string c0.sub) ∧ W'.cell? ⟨B, 3, none⟩ = some (.int .i64 c0.frm) ∧ W'.cell? ⟨B, 4, none⟩ = some (.int .i64 c0.til) ∧ W'.cell? ⟨B, 5, none⟩ = some (.string c0.whom) ∧ W'.cell? ⟨B, 6, none⟩ = some (.string c0.ans) ∧ W'.cell? ⟨B, 7, none⟩ = some (.slice a0 c0.facts.length cap0) ∧ W'.cell? ⟨B2, 0, none⟩ = some (.string c0.id) ∧ W'.cell? ⟨B2, 1, none⟩ = some (.string c0.iss) ∧ W'.cell? ⟨B2, 2, none⟩ = some (.string c0.sub) ∧ W'.cell? ⟨B2, 3, none⟩ = some (.int .i64 c0.frm) ∧ W'.cell? ⟨B2, 4, none⟩ = some (.int .i64 c0.til) ∧ W'.cell? ⟨B2, 5, none⟩ = some (.string c0.whom) ∧ W'.cell? ⟨B2, 6, none⟩ = some (.string c0.ans) ∧ W'.cell? ⟨B2, 7, none⟩ = some (.slice (some ⟨g4, 0, none⟩) c0.facts.length c0.facts.length) from fun W' hb => ⟨(HX7.out.below hb).c0, (HX7.out.below hb).c1, (HX7.out.below hb).c2, (HX7.out.below hb).c3, (HX7.out.below hb).c4, (HX7.out.below hb).c5, (HX7.out.below hb).c6, (HX7.out.below hb).c7, (HY7.out.below hb).c0, (HY7.out.below hb).c1, (HY7.out.below hb).c2, (HY7.out.below hb).c3, (HY7.out.below hb).c4, (HY7.out.below hb).c5, (HY7.out.below hb).c6, (HY7.out.below hb).c7⟩)
  go_region_held3 (fun w' => w'.cell? ⟨B, 0, none⟩ = some (.string c0.id) ∧ w'.cell? ⟨B, 1, none⟩ = some (.string c0.iss) ∧ w'.cell? ⟨B, 2, none⟩ = some (.string c0.sub) ∧ w'.cell? ⟨B, 3, none⟩ = some (.int .i64 c0.frm) ∧ w'.cell? ⟨B, 4, none⟩ = some (.int .i64 c0.til) ∧ w'.cell? ⟨B, 5, none⟩ = some (.string c0.whom) ∧ w'.cell? ⟨B, 6, none⟩ = some (.string c0.ans) ∧ w'.cell? ⟨B, 7, none⟩ = some (.slice a0 c0.facts.length cap0) ∧ w'.cell? ⟨B2, 0, none⟩ = some (.string c0.id) ∧ w'.cell? ⟨B2, 1, none⟩ = some (.string c0.iss) ∧ w'.cell? ⟨B2, 2, none⟩ = some (.string c0.sub) ∧ w'.cell? ⟨B2, 3, none⟩ = some (.int .i64 c0.frm) ∧ w'.cell? ⟨B2, 4, none⟩ = some (.int .i64 c0.til) ∧ w'.cell? ⟨B2, 5, none⟩ = some (.string c0.whom) ∧ w'.cell? ⟨B2, 6, none⟩ = some (.string c0.ans) ∧ w'.cell? ⟨B2, 7, none⟩ = some (.slice (some ⟨g4, 0, none⟩) c0.facts.length c0.facts.length)) (exact HSX.out _ HBc.out)
    (first
      | (go_at_call 7; refine (CT.out _ (HR7.out.below HBc.out)).mono ?_; rintro e w8 ⟨g8, cu8, _, rfl, hh8, hc8, hb8⟩; replace HBc := hid (bb HBc.out hb8); have T8 := hid (hc8.atRow hh8); clear hh8 hc8 hb8)
      | (go_at_call 10; refine (CE.out g4 g8 _ (S7.out.below HBc.out) T8.out).mono ?_; rintro e w9 ⟨rfl, hb9⟩; replace HBc := hid (bb HBc.out hb9); clear hb9))
  have R9 := hid (R7.out.below HBc.out)
  have D9 := hid (bb D7.out HBc.out)
  have M9 := hid (blk_below M7.out HBc.out)
  have HY9 := hid (HY7.out.below HBc.out)
  clear R7 D7 S7 M7 HY7 HX7 HR7 HBc HSX T8 f0 f1 f2 f3 f4 f5 f6 f7 y0 y1 y2 y3 y4 y5 y6 y7
  obtain ⟨y0, y1, y2, y3, y4, y5, y6, y7⟩ := And.intro HY9.out.c0 (And.intro HY9.out.c1 (And.intro HY9.out.c2 (And.intro HY9.out.c3 (And.intro HY9.out.c4 (And.intro HY9.out.c5 (And.intro HY9.out.c6 HY9.out.c7))))))
  have CM9 := hid (CMC.out g4 cu4 w9 M9.out MC.out)
  go_wp2_with fail
  refine CM9.out.mono ?_
  rintro e w10 ⟨K4, rfl, hK4, hkb⟩
  have D10 := hid (D9.out.trans (hkb.below D9.out.size (fun b hb => by have := HG4.out; omega)))
  have R10 := hid (R9.out.keep hkb (fun b hb => by have := HGL.out; omega))
  clear hkb CM9 R9 D9 HY9 M9 y0 y1 y2 y3 y4 y5 y6 y7
  have hd9 : decide ((K4 : Int) < 0) = false := by simp
  go_wp2_with fail
  refine (CQ.out a5 a3 c5 c3 _ (R10.out.rdQ HM5.out).2 (HT3.out.below D10.out)).mono ?_
  rintro e w11 ⟨rfl, hb11⟩
  have R11 := hid (R10.out.below hb11)
  have D11 := hid (bb D10.out hb11)
  clear hb11 R10 D10 hd9 hK4
  by_cases hne : es5 = []
  · subst hne
    have hz0 : ln = 0 := HL5.out.symm
    have CM := hid (fun wx => Nd.cMarkNone a5 c5 1 wx (by omega))
    have CH := hid (fun wx => Nd.cHeldNone a5 c5 1 wx (by omega))
    have HXb := hid (HX3.out.below D11.out)
    subst hz0
    obtain ⟨f0, f1, f2, f3, f4, f5, f6, f7⟩ := And.intro HXb.out.c0 (And.intro HXb.out.c1 (And.intro HXb.out.c2 (And.intro HXb.out.c3 (And.intro HXb.out.c4 (And.intro HXb.out.c5 (And.intro HXb.out.c6 HXb.out.c7))))))
    go_wp2_with fail
    refine (CM.out _).mono ?_
    rintro e w12 ⟨rfl, rfl⟩
    go_wp2_with fail
    refine (CH.out _).mono ?_
    rintro e w12 ⟨rfl, rfl⟩
    go_wp2_with fail
    refine (CT.out _ (HR3.out.below D11.out)).mono ?_
    rintro e w13 ⟨g13, cu13, _, rfl, hh13, hc13, hb13⟩
    have S13 := hid (hc13.atRow hh13)
    have D13 := hid (bb D11.out hb13)
    have L13 := hid (HMM.out.below (bb HB3.out D13.out))
    clear hb13 hh13 hc13 f0 f1 f2 f3 f4 f5 f6 f7
    go_wp2_with fail
    refine (CI.out _ _ S13.out L13.out).mono ?_
    rintro e w14 ⟨v14, rfl, hq14⟩
    have hb14 := hq14.bel
    obtain ⟨es14, a14, c14, hv14, hr14, hm14, _⟩ := hq14.open
    subst hv14
    clear hq14
    have hl14 : es14.length = L.length := (hr14.rdQ hm14).1
    rw [HLN.out] at hl14
    have T14 := hid (hr14.rdQ hm14).2
    have D14 := hid (bb D13.out hb14)
    rw [hl14]
    clear hr14 hm14 hb14 hl14
    go_wp2_with fail
    refine (CQ.out a14 a3 c14 c3 _ T14.out (HT3.out.below D14.out)).mono ?_
    rintro e w15 ⟨rfl, hb15⟩
    have D15 := hid (bb D14.out hb15)
    clear hb15
    go_wp2_with fail
    refine (CH.out _).mono ?_
    rintro e w16 ⟨rfl, rfl⟩
    go_wp2_with fail
    go_ret
    exact ⟨rfl, hB ▸ bb HB3.out D15.out⟩
  · obtain ⟨gq, cg, eg, hok, hho⟩ := R11.out.shape hne
    obtain ⟨rfl, rfl⟩ : a5 = some ⟨gq, 0, none⟩ ∧ c5 = cg := by cases eg; exact ⟨rfl, rfl⟩
    have HOK := hid hok
    have HHO := hid hho
    have hK : (Nd.shR gq es5).K 1 (Nd.shR gq es5).n ≤ 100000000 := by
      have e := Nd.shR_K gq es5 L HM5.out 1 L.length (Nat.le_refl _)
      rw [List.take_of_length_le (Nat.le_refl _)] at e
      have h1 := HSL.out
      show (Nd.shR gq es5).K 1 es5.length ≤ 100000000
      rw [HL5.out, ← HLN.out, e, HLN.out]
      omega
    have HKB := hid hK
    have CM := hid (show ∀ wx, Nd.HoldsN (Nd.shR gq es5) wx (Nd.eAt es5) → Calls Tryz.prog 12 #[.slice (some ⟨gq, 0, none⟩) ln c5, .int .i64 1] wx fun e w' => e = .returned (.int .i64 ((Nd.shR gq es5).K 1 (Nd.shR gq es5).n : Nat)) ∧ Nd.HoldsN (Nd.shR gq es5) w' (fun j => mkTk ((Nd.shR gq es5).K 1 j) ((Nd.shR gq es5).len j)) ∧ KeepB (Nd.shR gq es5).Has wx w' from fun wx h => by
      have := Nd.cMarkNodeH (Nd.shR gq es5) w5.heap.size c5 1 (Nd.eAt es5) wx HOK.out h HKB.out
      rw [show (Nd.shR gq es5).n = ln from HL5.out] at this ⊢
      exact this)
    have CH := hid (show ∀ wx, Nd.HoldsN (Nd.shR gq es5) wx (fun j => mkTk ((Nd.shR gq es5).K 1 j) ((Nd.shR gq es5).len j)) → Calls Tryz.prog 13 #[.slice (some ⟨gq, 0, none⟩) ln c5, .int .i64 1] wx fun e w' => e = .returned (.int .i64 ((Nd.shR gq es5).K 1 (Nd.shR gq es5).n : Nat)) ∧ Below wx.heap.size wx w' from fun wx h => by
      have := Nd.cHeldNodeS (Nd.shR gq es5) w5.heap.size c5 1 wx HOK.out h HKB.out
      rw [show (Nd.shR gq es5).n = ln from HL5.out] at this ⊢
      exact this)
    obtain ⟨K, hKe⟩ : ∃ K, (Nd.shR gq es5).K 1 (Nd.shR gq es5).n = K := ⟨_, rfl⟩
    rw [hKe] at CM CH
    clear hok hho hK hKe eg
    have hdK : decide ((K : Int) < 0) = false := by simp
    have hKK : ((K : Int) == (K : Int)) = true := by simp
    go_wp2_with fail
    refine (CM.out _ HHO.out).mono ?_
    rintro e w12 ⟨rfl, hho12, hkb⟩
    have D12 := hid (D11.out.trans (hkb.below D11.out.size (fun b hb => by have := HOK.out.has hb; have := HW35.out; omega)))
    have H12 := hid hho12
    clear hho12 hkb HHO
    go_wp2_with fail
    refine (CH.out _ H12.out).mono ?_
    rintro e w13 ⟨rfl, hb13⟩
    have H13 := hid (H12.out.below hb13)
    have D13 := hid (bb D12.out hb13)
    have HXb := hid (HX3.out.below D13.out)
    clear hb13 H12
    obtain ⟨f0, f1, f2, f3, f4, f5, f6, f7⟩ := And.intro HXb.out.c0 (And.intro HXb.out.c1 (And.intro HXb.out.c2 (And.intro HXb.out.c3 (And.intro HXb.out.c4 (And.intro HXb.out.c5 (And.intro HXb.out.c6 HXb.out.c7))))))
    go_wp2_with fail
    refine (CT.out _ (HR3.out.below D13.out)).mono ?_
    rintro e w14 ⟨g14, cu14, _, rfl, hh14, hc14, hb14⟩
    have S14 := hid (hc14.atRow hh14)
    have H14 := hid (H13.out.below hb14)
    have D14 := hid (bb D13.out hb14)
    have L14 := hid (HMM.out.below (bb HB3.out D14.out))
    clear hb14 hh14 hc14 H13 f0 f1 f2 f3 f4 f5 f6 f7
    go_wp2_with fail
    refine (CI.out _ _ S14.out L14.out).mono ?_
    rintro e w15 ⟨v15, rfl, hq15⟩
    have hb15 := hq15.bel
    obtain ⟨es15, a15, c15, hv15, hr15, hm15, _⟩ := hq15.open
    subst hv15
    clear hq15
    have hl15 : es15.length = L.length := (hr15.rdQ hm15).1
    rw [HLN.out] at hl15
    have T15 := hid (hr15.rdQ hm15).2
    have H15 := hid (H14.out.below hb15)
    have D15 := hid (bb D14.out hb15)
    rw [hl15]
    clear hr15 hm15 hb15 hl15 H14
    go_wp2_with fail
    refine (CQ.out a15 a3 c15 c3 _ T15.out (HT3.out.below D15.out)).mono ?_
    rintro e w16 ⟨rfl, hb16⟩
    have H16 := hid (H15.out.below hb16)
    have D16 := hid (bb D15.out hb16)
    clear hb16 H15
    go_wp2_with fail
    refine (CH.out _ H16.out).mono ?_
    rintro e w17 ⟨rfl, hb17⟩
    have D17 := hid (bb D16.out hb17)
    clear hb17
    go_wp2_with fail
    go_ret
    exact ⟨rfl, hB ▸ bb HB3.out D17.out⟩

end Go.Proofs.YtapmhlhbjpbcoaaGreatDoor

namespace Go.Proofs.YtapmhlhbjpbcoaaGreatDoor
open Go.RowKit

theorem pow_data : (Lib.tabData .u64 Lib.pow10Tab : DataW Unit) = Rows.laid_internal_strconv_uint64pow10 := by kernel_rfl

theorem laid_of {l : List (String × DataW Unit)} {w : World} (h : laidMet Tryz.prog l w) (h0 : (longName, Lib.tabData .i64 longZ) ∈ l) (h1 : (shortName, Lib.tabData .i64 shortZ) ∈ l) (h2 : (powName, Rows.laid_internal_strconv_uint64pow10) ∈ l) : Laid w := by
  refine ⟨mon_of h h0 h1, ?_⟩
  rw [← pow_data] at h2
  exact tab_of h h2 (g := 2) (t := 188) (by kernel_rfl) (by kernel_rfl) Tryz.underlying188 Tryz.underlying176 (by kernel_rfl) (by kernel_rfl)

end Go.Proofs.YtapmhlhbjpbcoaaGreatDoor
