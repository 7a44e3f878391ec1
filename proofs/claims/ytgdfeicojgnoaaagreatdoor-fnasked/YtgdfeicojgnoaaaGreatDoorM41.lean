/- Contract of the program's Swept. The program's laterGate. The program's laterGate where the gate grows later. -/
import Derived.Test.YtgdfeicojgnoaaaGreatDoorM40
import Derived.Test.YtgdfeicojgnoaaaGreatDoorM8
import Derived.Test.YtgdfeicojgnoaaaGreatDoorM14
import Derived.Test.YtgdfeicojgnoaaaGreatDoorM3
import Derived.Test.YtgdfeicojgnoaaaGreatDoorM37
import Derived.Test.YtgdfeicojgnoaaaGreatDoorM35
import Derived.Deep.RegionHeld3
import Derived.Deep.Cut
import Derived.Deep.CutRange
namespace Go.Proofs.YtgdfeicojgnoaaaGreatDoor
open Go.RowKit
set_option linter.unusedVariables false
set_option linter.unusedSimpArgs false

def lenAt (R : Nat) (W : World) : Nat := match W.cell? ⟨R, 0, none⟩ with
  | some (.slice _ n _) => n
  | _ => 0

theorem lenAt_wn {W : World} {B R : Nat} {v : Value} {l : List Ro} (h : Wn W B R v l) : lenAt R W = l.length := by
  obtain ⟨a, c, e⟩ := u_own_len h.own
  unfold lenAt
  rw [u_box1c h.box, e]

theorem Wt.wn {w : World} {B R g c : Nat} {l : List Ro} (h : Wt w B R g c l) : Wn w B R (.slice (some ⟨g, 0, none⟩) l.length c) l := ⟨h.box, h.own⟩

/-- What is still of use of a heap whose root is gone. -/
theorem pop_sweep {m l r : List Ro} {now : Int} (h0 : 0 < l.length) (hp : (m ++ [l[0]]).Perm l) (h : l[0].til ≤ now) (hs : (sweepR l now).Perm r) : (sweepR m now).Perm r := by
  have e : sweepR (m ++ [l[0]]) now = sweepR m now := by
    unfold sweepR
    rw [List.filter_append, List.filter_cons_of_neg (by simpa using h)]
    simp
  rw [← e]
  exact (hp.filter _).trans hs

/-- Where the root is of use all are. -/
theorem root_sweep {l : List Ro} {now : Int} (hH : HeapF (keyF l) l.length) (h : ∀ h0 : 0 < l.length, now < l[0].til) : sweepR l now = l := by
  refine List.filter_eq_self.2 fun x hx => ?_
  obtain ⟨k, hk, rfl⟩ := List.getElem_of_mem hx
  have h1 := heap_root hH k hk
  rw [keyF_lt (by omega), keyF_lt hk] at h1
  have := h (by omega)
  simp
  omega

set_option maxRecDepth 8000 in
set_option maxHeartbeats 16000000 in
theorem cSweptI (t : Tb) (a : Option Addr) (cap : Nat) (now : Int) (w : World) (hR : RoRow w a t.rows) (hz : RoSz 1048576 t.rows) (hn : t.rows.length ≤ 1048576) :
    Calls Tryz.prog 65 #[tbV t a cap, .int .i64 now] w fun e w' => ∃ a' c', e = .returned (tbV (sweptT t now) a' c') ∧ OwnRo w' w.heap.size a' (sweptT t now).rows ∧ Below w.heap.size w w' := by
  have CO := hid (fun wx (h : Below w.heap.size w wx) => cTableOkI t a cap wx (hR.below h) hz hn)
  have CT := hid (fun wx => cTimeI now wx)
  have hM : decide (0 ≤ now ∧ now ≤ 3155759999) = utmB now := rfl
  rw [hM] at CT
  clear hM
  have HR := hid hR
  have HZ := hid hz
  have HLE := hid (fun (h : tableB t = true) => tableB_len h)
  have HUP := hid (fun (h : tableB t = true) => sweep_up (up_of (tableB_p h).2.2) now)
  have HB0 := hid (((Below.refl w.heap.size w).alloc (Nat.le_refl _) (.cells #[.int .i64 t.most, .slice a t.rows.length cap] 27)).alloc (by simp) (.cells #[.int .i64 0, .slice none 0 0] 27))
  obtain ⟨b1, b2⟩ := u_heap2 w (.cells #[.int .i64 t.most, .slice a t.rows.length cap] 27) (.cells #[.int .i64 0, .slice none 0 0] 27)
  have HEF := hid (fun h => sweptT_f (t := t) (now := now) h)
  have HET := hid (fun h => sweptT_t (t := t) (now := now) h)
  obtain ⟨RR, hRR⟩ : ∃ R, sweptT t now = R := ⟨_, rfl⟩
  rw [hRR]
  simp only [hRR] at HEF HET
  clear hRR hR hz hn
  obtain ⟨n, hnn⟩ : ∃ n, t.rows.length = n := ⟨_, rfl⟩
  have HN := hid hnn
  unfold tbV at CO ⊢
  rw [hnn] at CO b1 b2 HB0 HLE ⊢
  obtain ⟨m, hm⟩ : ∃ m, t.most = m := ⟨_, rfl⟩
  have HM := hid hm
  rw [hm] at CO b1 b2 HB0 HET ⊢
  clear hnn hm
  obtain ⟨W0, hW0⟩ : ∃ W0, ((w.alloc (.cells #[.int .i64 m, .slice a n cap] 27)).alloc (.cells #[.int .i64 0, .slice none 0 0] 27)) = W0 := ⟨_, rfl⟩
  rw [hW0] at b1 b2 HB0
  obtain ⟨B, hB⟩ : ∃ B, w.heap.size = B := ⟨_, rfl⟩
  rw [hB] at b1 b2
  have HM1 := hid b1
  have HM2 := hid b2
  clear b1 b2
  obtain ⟨⟨f0, f1⟩, _⟩ := u_box2f HM1.out
  obtain ⟨⟨f2, f3⟩, f6, f7⟩ := u_box2f HM2.out
  cases hT : tableB t with
  | false =>
    have HE := hid (HEF.out (by rw [hT]; rfl))
    rw [hT] at CO
    clear HEF HET hT HLE HUP CT
    go_enter Tryz.func65, Tryz.ntmps65
    go_wp2_with fail
    refine (CO.out _ HB0.out).mono ?_
    rintro e w1 ⟨rfl, hb1⟩
    have HB1 := hid (bb HB0.out hb1)
    have HM21 := hid (u_blk_below HM2.out hb1)
    clear hb1 CO hW0 f0 f1 f2 f3 f6 f7
    obtain ⟨⟨f2, f3⟩, f6, f7⟩ := u_box2f HM21.out
    go_wp2_with fail
    refine bodyPost_ret (v := .agg #[.int .i64 0, .slice none 0 0]) (by simp [results, Tryz.results65, go_sem, f2, f3]) rfl ⟨none, 0, by rw [HE.out]; rfl, by rw [HE.out]; exact OwnRo.nil _ _ _, ?_⟩
    iterate 2 refine Below.setCell ?_ (show w.heap.size ≤ B + 1 by omega) _
    exact HB1.out
  | true =>
    have hn20 : n ≤ 20 := HLE.out hT
    have HU := hid (HUP.out hT)
    rw [hT] at CO
    cases hU : utmB now with
    | false =>
      have HE := hid (HEF.out (by rw [hT, hU]; rfl))
      rw [hU] at CT
      clear HEF HET hT HLE HUP HU hU
      go_enter Tryz.func65, Tryz.ntmps65
      go_wp2_with fail
      refine (CO.out _ HB0.out).mono ?_
      rintro e w1 ⟨rfl, hb1⟩
      have HB1 := hid (bb HB0.out hb1)
      have HM21 := hid (u_blk_below HM2.out hb1)
      clear hb1 CO hW0 f0 f1 f2 f3 f6 f7
      go_wp2_with fail
      refine (CT.out _).mono ?_
      rintro e w1 ⟨rfl, rfl⟩
      clear CT
      obtain ⟨⟨f2, f3⟩, f6, f7⟩ := u_box2f HM21.out
      go_wp2_with fail
      refine bodyPost_ret (v := .agg #[.int .i64 0, .slice none 0 0]) (by simp [results, Tryz.results65, go_sem, f2, f3]) rfl ⟨none, 0, by rw [HE.out]; rfl, by rw [HE.out]; exact OwnRo.nil _ _ _, ?_⟩
      iterate 2 refine Below.setCell ?_ (show w.heap.size ≤ B + 1 by omega) _
      exact HB1.out
    | true =>
      have HE := hid (HET.out (by rw [hT, hU]; rfl))
      rw [hU] at CT
      clear HEF HET hT HLE HUP hU
      go_enter Tryz.func65, Tryz.ntmps65
      go_wp2_with fail
      refine (CO.out _ HB0.out).mono ?_
      rintro e w1 ⟨rfl, hb1⟩
      have HB1 := hid (bb HB0.out hb1)
      have HM11 := hid (u_blk_below HM1.out hb1)
      have HM21 := hid (u_blk_below HM2.out hb1)
      have HR1 := hid (HR.out.below (bb HB0.out hb1))
      clear hb1 CO hW0 f0 f1 f2 f3 f6 f7 HR HM1 HM2 HB0
      go_wp2_with fail
      refine (CT.out _).mono ?_
      rintro e w1 ⟨rfl, rfl⟩
      clear CT
      have HX := hid (heap_alloc_new w1 (.cells #[.slice none 0 0] 137))
      have HBn := hid ((Below.refl w1.heap.size w1).alloc (Nat.le_refl _) (.cells #[.slice none 0 0] 137))
      have HBP := hid (show B + 1 < w1.heap.size from lt_of_heap HM21.out)
      obtain ⟨W3, hW3⟩ : ∃ W, w1.alloc (.cells #[.slice none 0 0] 137) = W := ⟨_, rfl⟩
      rw [hW3] at HX HBn
      obtain ⟨P, hP⟩ : ∃ P, w1.heap.size = P := ⟨_, rfl⟩
      have HPW := hid hP
      rw [hP] at HX HBn HBP
      obtain ⟨⟨f0, f1⟩, _⟩ := u_box2f (u_blk_below HM11.out (HPW.out ▸ HBn.out))
      go_wp2_with fail
      clear hP hW3 f0 f1
      have HS := hid (Wn.mk (B := P + 1) (l := []) HX.out (World.ownsRow_nil _ _ _ _))
      clear HX
      go_loopw [20] (fun k wr => ∃ (i : Nat) (v : Value) (l : List Ro), k = .int .i64 (i : Int) ∧ i ≤ n ∧ Hid (Wn wr (P + 1) P v l) ∧ Hid (l.Perm (t.rows.take i)) ∧ Hid (HeapF (keyF l) l.length) ∧ Hid (Below P w1 wr)) (fun k _ => n - (intOf k).toNat)
      case atStart => exact ⟨0, _, [], rfl, Nat.zero_le _, HS.out, List.Perm.refl _, fun k hk _ => absurd hk (Nat.not_lt_zero k), HBn.out⟩
      case round =>
        clear HS HBn
        obtain ⟨i, v, l, rfl, hin, HW, HQ, HH, HB⟩ := hrel
        have HLI := hid (show l.length = i by rw [HQ.out.length_eq, List.length_take, HN.out]; omega)
        by_cases hlt : i < n
        case pos =>
          have his : i < t.rows.length := by rw [HN.out]; exact hlt
          obtain ⟨b, o, rfl, hbl, c1, c2⟩ := HR1.out.below (HPW.out ▸ HB.out) i his
          have hi1 : (i : Int) < (n : Int) := by omega
          have hilt : i < 20 := by omega
          have HT := hid (take_snocN his)
          have C := hid (fun wx => cCopiedRow t.rows[i].id t.rows[i].til wx (HZ.out _ (List.getElem_mem his)))
          have HRO := hid (show t.rows[i] = ⟨t.rows[i].id, t.rows[i].til⟩ from rfl)
          obtain ⟨x, hx⟩ : ∃ x, t.rows[i].id = x := ⟨_, rfl⟩
          obtain ⟨y, hy⟩ : ∃ y, t.rows[i].til = y := ⟨_, rfl⟩
          rw [hx] at c1 C HRO
          rw [hy] at c2 C HRO
          rw [HRO.out] at HT
          clear hx hy his HRO
          have HA := hid ((Below.refl wr.heap.size wr).alloc (Nat.le_refl _) (.cells #[.string x, .int .i64 y] 83))
          have HPS := hid (lt_of_heap HW.out.box)
          go_wp2_with fail
          refine (C.out _).mono ?_
          rintro e w5 ⟨rfl, hb5⟩
          have HA5 := hid (bb HA.out hb5)
          have CP := hid (cHPush (P + 1) P v l x y w5 (HW.out.below HA5.out) (Nat.le_trans HPS.out HA5.out.size) (Nat.lt_succ_self P) (by rw [HLI.out]; omega) HH.out)
          clear hb5 C HA
          go_wp2_with fail
          refine CP.out.mono ?_
          rintro e w6 ⟨rfl, v6, l6, hp6, hh6, hw6, hb6⟩
          have HF := hid (And.intro hw6 (And.intro (show l6.Perm (t.rows.take (i + 1)) from by rw [HT.out]; exact hp6.trans (HQ.out.append_right _)) (And.intro hh6 (HB.out.trans ((HA5.out.mono (Nat.le_of_lt HPS.out)).trans hb6)))))
          clear hp6 hh6 hw6 hb6 CP
          go_wp2_with fail
          go_roundw
          case rel => exact ⟨i + 1, v6, l6, by go_num, by omega, HF.out.1, HF.out.2.1, HF.out.2.2.1, HF.out.2.2.2⟩
          case measure => simp [intOf]; omega
        case neg =>
          have hie : i = n := by omega
          have HQ2 := hid (show (sweepR l now).Perm (sweepR t.rows now) from by
            have h1 := HQ.out
            rw [List.take_of_length_le (by rw [HN.out]; omega)] at h1
            exact h1.filter _)
          have HL2 := hid (show l.length ≤ 20 from by rw [HLI.out]; omega)
          clear HQ HLI
          subst hie
          go_wp2_with fail
          obtain ⟨wo, hwo⟩ : ∃ wo : World, wo = wr := ⟨wr, rfl⟩
          subst hwo
          go_loopw [] (fun wr => ∃ (v : Value) (l : List Ro), Hid (Wn wr (P + 1) P v l) ∧ Hid ((sweepR l now).Perm (sweepR t.rows now)) ∧ Hid (HeapF (keyF l) l.length) ∧ Hid (l.length ≤ 20) ∧ Hid (Below P w1 wr)) (fun wr => lenAt P wr)
          case atStart => exact ⟨v, l, HW.out, HQ2.out, HH.out, HL2.out, HB.out⟩
          case round =>
            clear HW HQ2 HH HL2 HB v l
            obtain ⟨v, l, HW, HQ, HH, HL, HB⟩ := hrel
            have HLN := hid (lenAt_wn HW.out)
            by_cases h0 : 0 < l.length
            case neg =>
              have hl0 : l.length = 0 := by omega
              have HSW := hid (root_sweep (now := now) HH.out (fun h => absurd h h0))
              obtain ⟨a7, c7, hv7⟩ := u_own_len HW.out.own
              rw [hl0] at hv7
              subst hv7
              have q0 := u_box1c HW.out.box
              have HPL := hid (show l.Perm (sweepR t.rows now) from by
                have h1 := HQ.out
                rw [HSW.out] at h1
                exact h1)
              have CS := hid (cSort (P + 1) P _ l (sweepR t.rows now) wr HW.out (Nat.lt_succ_self P) HU.out.2 HPL.out (by have := HL.out; omega))
              obtain ⟨n4, hn4⟩ : ∃ n, (sweepR t.rows now).length = n := ⟨_, rfl⟩
              have HN4 := hid hn4
              rw [hn4] at CS
              clear hn4 HQ HSW HPL HLN HH
              go_wp2_with fail
              refine CS.out.mono ?_
              rintro e w8 ⟨rfl, a8, c8, hv8, hb8, ho8, hk8⟩
              have HB8 := hid (HB.out.trans hk8)
              have HO8 := hid ho8
              have HV8 := hid hv8
              rw [hv8] at hb8
              have q8 := u_box1c hb8
              obtain ⟨⟨f0, f1⟩, _⟩ := u_box2f (u_blk_below HM11.out (HPW.out ▸ HB8.out))
              obtain ⟨⟨f2, f3⟩, f6, f7⟩ := u_box2f (u_blk_below HM21.out (HPW.out ▸ HB8.out))
              clear hb8 ho8 hk8 CS hv8 q0
              go_wp2_with fail
              refine bodyPost_ret (v := .agg #[.int .i64 m, .slice a8 n4 c8]) (by simp [results, Tryz.results65, go_sem, f2, f3]) rfl ⟨a8, c8, ?_, ?_, ?_⟩
              · rw [HE.out, HN4.out]
              · rw [HE.out]
                have hBP := HBP.out
                refine ((HO8.out.keep (u_KeepB.of_set (p := fun k => k = B + 1) _ 0 _ rfl) (fun b e => by omega)).keep (u_KeepB.of_set (p := fun k => k = B + 1) _ 1 _ rfl) (fun b e => by omega)).mono (by omega)
              · iterate 2 refine Below.setCell ?_ (show w.heap.size ≤ B + 1 by omega) _
                exact HB1.out.trans (HB8.out.mono (by have := HBP.out; omega))
            case pos =>
              obtain ⟨g, c, rfl, hWt, hBg⟩ := HW.out.wt h0
              have HWT := hid hWt
              obtain ⟨cu, hh, hcu⟩ := hWt.cells h0
              have hc1 := (hcu 0 h0).2
              simp only [Nat.zero_mul, Nat.zero_add] at hc1
              have c1 : wr.cell? ⟨g, 1, none⟩ = some (.int .i64 l[0].til) := by rw [Lib.cell_of_heap hh]; exact hc1
              have q0 := u_box1c HW.out.box
              clear hWt hh hcu hc1 hBg
              obtain ⟨q, hq⟩ : ∃ q, l.length = q + 1 := ⟨l.length - 1, by omega⟩
              obtain ⟨z, hz⟩ : ∃ z, l[0].til = z := ⟨_, rfl⟩
              rw [hz] at c1
              have HZZ := hid hz
              have HLQ := hid hq
              obtain ⟨q1, hq1⟩ : ∃ q1, q + 1 = q1 := ⟨_, rfl⟩
              rw [hq, hq1] at q0
              have HQ1 := hid hq1
              have g1 : (0 : Int) < (q1 : Int) := by omega
              have g2 : 0 < q1 := by omega
              clear hz hq hq1
              by_cases hle : z ≤ now
              case pos =>
                have CPp := hid (cHPop (P + 1) P g c q l wr HWT.out HLQ.out h0 (Nat.lt_succ_self P) (by have := HW.out.own.lt g rfl; omega) (lt_of_heap HW.out.box) (by rw [HLQ.out]; have := HL.out; rw [HLQ.out] at this; omega) HH.out)
                have HPS := hid (fun (m : List Ro) (hp : (m ++ [l[0]]).Perm l) => pop_sweep h0 hp (by rw [HZZ.out]; exact hle) HQ.out)
                have HLL := hid (show q ≤ 20 from by have := HL.out; rw [HLQ.out] at this; omega)
                have HLN2 := hid (show lenAt P wr = q + 1 from HLN.out.trans HLQ.out)
                clear HW HWT HQ HH HL HLN HZZ
                go_wp2_with fail
                refine CPp.out.mono ?_
                rintro e w5 ⟨v5, rfl, l5, hp5, hh5, hl5, hw5, hb5⟩
                have HF := hid (And.intro hw5.wn (And.intro (HPS.out l5 hp5) (And.intro hh5 (And.intro (show l5.length ≤ 20 by rw [hl5]; exact HLL.out) (HB.out.trans hb5)))))
                have HML := hid (show lenAt P w5 = q from (lenAt_wn hw5.wn).trans hl5)
                clear hp5 hh5 hl5 hw5 hb5 CPp c1 q0
                go_wp2_with fail
                go_roundw
                case rel => exact ⟨_, l5, HF.out.1, HF.out.2.1, HF.out.2.2.1, HF.out.2.2.2.1, HF.out.2.2.2.2⟩
                case measure => rw [HML.out, HLN2.out]; omega
              case neg =>
                have HSW := hid (root_sweep (now := now) HH.out (fun h => by rw [HZZ.out]; omega))
                clear HWT HZZ
                have HPL := hid (show l.Perm (sweepR t.rows now) from by
                  have h1 := HQ.out
                  rw [HSW.out] at h1
                  exact h1)
                have CS := hid (cSort (P + 1) P _ l (sweepR t.rows now) wr HW.out (Nat.lt_succ_self P) HU.out.2 HPL.out (by have := HL.out; omega))
                rw [HLQ.out, HQ1.out] at CS
                obtain ⟨n4, hn4⟩ : ∃ n, (sweepR t.rows now).length = n := ⟨_, rfl⟩
                have HN4 := hid hn4
                rw [hn4] at CS
                clear hn4 HQ HSW HPL HLN HH
                go_wp2_with fail
                refine CS.out.mono ?_
                rintro e w8 ⟨rfl, a8, c8, hv8, hb8, ho8, hk8⟩
                have HB8 := hid (HB.out.trans hk8)
                have HO8 := hid ho8
                have HV8 := hid hv8
                rw [hv8] at hb8
                have q8 := u_box1c hb8
                obtain ⟨⟨f0, f1⟩, _⟩ := u_box2f (u_blk_below HM11.out (HPW.out ▸ HB8.out))
                obtain ⟨⟨f2, f3⟩, f6, f7⟩ := u_box2f (u_blk_below HM21.out (HPW.out ▸ HB8.out))
                clear hb8 ho8 hk8 CS hv8 q0
                go_wp2_with fail
                refine bodyPost_ret (v := .agg #[.int .i64 m, .slice a8 n4 c8]) (by simp [results, Tryz.results65, go_sem, f2, f3]) rfl ⟨a8, c8, ?_, ?_, ?_⟩
                · rw [HE.out, HN4.out]
                · rw [HE.out]
                  have hBP := HBP.out
                  refine ((HO8.out.keep (u_KeepB.of_set (p := fun k => k = B + 1) _ 0 _ rfl) (fun b e => by omega)).keep (u_KeepB.of_set (p := fun k => k = B + 1) _ 1 _ rfl) (fun b e => by omega)).mono (by omega)
                · iterate 2 refine Below.setCell ?_ (show w.heap.size ≤ B + 1 by omega) _
                  exact HB1.out.trans (HB8.out.mono (by have := HBP.out; omega))

end Go.Proofs.YtgdfeicojgnoaaaGreatDoor

namespace Go.Proofs.YtgdfeicojgnoaaaGreatDoor
open Go.RowKit
set_option linter.unusedVariables false
set_option linter.unusedSimpArgs false

theorem s_cell8 {w : World} {b o R : Nat} {v : Value} (h : w.cell? ⟨b, o, none⟩ = some v) (hne : b ≠ R) (v0 v1 v2 v3 v4 v5 v6 v7 : Value) :
    ((((((((w.setCell ⟨R, 0, none⟩ v0).setCell ⟨R, 1, none⟩ v1).setCell ⟨R, 2, none⟩ v2).setCell ⟨R, 3, none⟩ v3).setCell ⟨R, 4, none⟩ v4).setCell ⟨R, 5, none⟩ v5).setCell ⟨R, 6, none⟩ v6).setCell ⟨R, 7, none⟩ v7).cell? ⟨b, o, none⟩ = some v := by
  have st : ∀ (w : World) (i : Nat) (u : Value), w.cell? ⟨b, o, none⟩ = some v → (w.setCell ⟨R, i, none⟩ u).cell? ⟨b, o, none⟩ = some v := fun w i u h => by
    have e : (w.setCell ⟨R, i, none⟩ u).heap[b]? = w.heap[b]? := by simp [World.setCell, Array.getElem?_modify, Ne.symm hne]
    unfold World.cell? at h ⊢
    rw [e]
    exact h
  exact st _ _ _ (st _ _ _ (st _ _ _ (st _ _ _ (st _ _ _ (st _ _ _ (st _ _ _ (st _ _ _ h)))))))

set_option maxRecDepth 8000 in
set_option maxHeartbeats 16000000 in
theorem cLaterBad (g : Gt) (ah : Option Addr) (ch : Nat) (aa : Option Addr) (ca : Nat) (ar : Option Addr) (cr : Nat) (d : Int) (a0 a1 : Addr) (w : World) (hS : SenAt a0 a1 w) (hR : GtRow w g ah aa ar) (hz : GtSz 1048576 g) (hg : gateB g = false) :
    Calls Tryz.prog 26 #[gtV g ah ch aa ca ar cr, .int .i64 d] w fun e w' => e = .returned (.tuple #[.agg #[.string ⟨#[]⟩, .slice none 0 0, .int .i64 0, .int .i64 0, .int .i64 0, .slice none 0 0, .int .i64 0, .slice none 0 0], erV (.base a0)]) ∧ Below w.heap.size w w' := by
  have CO := hid (fun wx (h : Below w.heap.size w wx) => cGateOkI g ah ch aa ca ar cr wx (hR.below h) hz)
  rw [hg] at CO
  clear hR hz hg
  unfold gtV at CO ⊢
  generalize g.name = x at *
  generalize g.skew = sk at *
  generalize g.now = nw at *
  generalize g.ask.most = am at *
  generalize g.hrd.most = rm at *
  generalize g.hands.length = nh at *
  generalize g.ask.rows.length = na at *
  generalize g.hrd.rows.length = nr at *
  obtain ⟨b1, b2⟩ := u_heap2 w (.cells #[.string x, .slice ah nh ch, .int .i64 sk, .int .i64 nw, .int .i64 am, .slice aa na ca, .int .i64 rm, .slice ar nr cr] 29) (.cells #[.string ⟨#[]⟩, .slice none 0 0, .int .i64 0, .int .i64 0, .int .i64 0, .slice none 0 0, .int .i64 0, .slice none 0 0] 29)
  have HB0 := hid (((Below.refl w.heap.size w).alloc (Nat.le_refl _) (.cells #[.string x, .slice ah nh ch, .int .i64 sk, .int .i64 nw, .int .i64 am, .slice aa na ca, .int .i64 rm, .slice ar nr cr] 29)).alloc (by simp) (.cells #[.string ⟨#[]⟩, .slice none 0 0, .int .i64 0, .int .i64 0, .int .i64 0, .slice none 0 0, .int .i64 0, .slice none 0 0] 29))
  obtain ⟨W0, hW0⟩ : ∃ W0, (w.alloc (.cells #[.string x, .slice ah nh ch, .int .i64 sk, .int .i64 nw, .int .i64 am, .slice aa na ca, .int .i64 rm, .slice ar nr cr] 29)).alloc (.cells #[.string ⟨#[]⟩, .slice none 0 0, .int .i64 0, .int .i64 0, .int .i64 0, .slice none 0 0, .int .i64 0, .slice none 0 0] 29) = W0 := ⟨_, rfl⟩
  rw [hW0] at b1 b2 HB0
  obtain ⟨B, hB⟩ : ∃ B, w.heap.size = B := ⟨_, rfl⟩
  have HBE := hid hB
  rw [hB] at b1 b2
  have HM1 := hid b1
  have HM2 := hid b2
  clear b1 b2
  obtain ⟨⟨f0, f1, f2, f3, f4, f5, f6, f7⟩, ff⟩ := g_box8f HM1.out
  clear ff
  have HSx := hid (hS.below HB0.out)
  unfold erV
  go_enter Tryz.func26, Tryz.ntmps26
  go_wp2_with fail
  refine (CO.out _ HB0.out).mono ?_
  rintro e w1 ⟨rfl, hb1⟩
  have HBf := hid (bb HB0.out hb1)
  have HZ := hid (u_blk_below HM2.out hb1)
  have e0 := (HSx.out.below hb1).cells.1
  clear hb1 CO f0 f1 f2 f3 f4 f5 f6 f7 hW0
  obtain ⟨⟨k0, k1, k2, k3, k4, k5, k6, k7⟩, kf⟩ := g_box8f HZ.out
  have kf0 := kf 0
  have kf1 := kf 1
  have kf2 := kf 2
  have kf3 := kf 3
  have kf4 := kf 4
  have kf5 := kf 5
  have kf6 := kf 6
  have kf7 := kf 7
  clear kf
  go_wp2_with fail
  go_region
  go_wp2_with fail
  ·
    refine bodyPost_ret (v := .tuple #[.agg #[.string ⟨#[]⟩, .slice none 0 0, .int .i64 0, .int .i64 0, .int .i64 0, .slice none 0 0, .int .i64 0, .slice none 0 0], .iface 229 (.pointer (some a0))]) (by simp [results, Tryz.results26, go_sem, k0, k1, k2, k3, k4, k5, k6, k7]) rfl ⟨rfl, ?_⟩
    refine Below.drew ?_
    iterate 8 refine Below.setCell ?_ (show w.heap.size ≤ B + 1 by omega) _
    exact HBf.out

set_option maxRecDepth 8000 in
set_option maxHeartbeats 16000000 in
theorem cLaterNoNeg (g : Gt) (ah : Option Addr) (ch : Nat) (aa : Option Addr) (ca : Nat) (ar : Option Addr) (cr : Nat) (d : Int) (a0 a1 : Addr) (w : World) (hS : SenAt a0 a1 w) (hR : GtRow w g ah aa ar) (hz : GtSz 1048576 g) (hg : gateB g = true) (hd : d < 0) :
    Calls Tryz.prog 26 #[gtV g ah ch aa ca ar cr, .int .i64 d] w fun e w' => e = .returned (.tuple #[.agg #[.string ⟨#[]⟩, .slice none 0 0, .int .i64 0, .int .i64 0, .int .i64 0, .slice none 0 0, .int .i64 0, .slice none 0 0], erV (.base a1)]) ∧ Below w.heap.size w w' := by
  have CO := hid (fun wx (h : Below w.heap.size w wx) => cGateOkI g ah ch aa ca ar cr wx (hR.below h) hz)
  rw [hg] at CO
  have CL := hid (fun wx => cLaterI g.now d wx)
  generalize laterOf g.now d = L at *
  clear hR hz hg
  unfold gtV at CO ⊢
  generalize g.name = x at *
  generalize g.skew = sk at *
  generalize g.now = nw at *
  generalize g.ask.most = am at *
  generalize g.hrd.most = rm at *
  generalize g.hands.length = nh at *
  generalize g.ask.rows.length = na at *
  generalize g.hrd.rows.length = nr at *
  obtain ⟨b1, b2⟩ := u_heap2 w (.cells #[.string x, .slice ah nh ch, .int .i64 sk, .int .i64 nw, .int .i64 am, .slice aa na ca, .int .i64 rm, .slice ar nr cr] 29) (.cells #[.string ⟨#[]⟩, .slice none 0 0, .int .i64 0, .int .i64 0, .int .i64 0, .slice none 0 0, .int .i64 0, .slice none 0 0] 29)
  have HB0 := hid (((Below.refl w.heap.size w).alloc (Nat.le_refl _) (.cells #[.string x, .slice ah nh ch, .int .i64 sk, .int .i64 nw, .int .i64 am, .slice aa na ca, .int .i64 rm, .slice ar nr cr] 29)).alloc (by simp) (.cells #[.string ⟨#[]⟩, .slice none 0 0, .int .i64 0, .int .i64 0, .int .i64 0, .slice none 0 0, .int .i64 0, .slice none 0 0] 29))
  obtain ⟨W0, hW0⟩ : ∃ W0, (w.alloc (.cells #[.string x, .slice ah nh ch, .int .i64 sk, .int .i64 nw, .int .i64 am, .slice aa na ca, .int .i64 rm, .slice ar nr cr] 29)).alloc (.cells #[.string ⟨#[]⟩, .slice none 0 0, .int .i64 0, .int .i64 0, .int .i64 0, .slice none 0 0, .int .i64 0, .slice none 0 0] 29) = W0 := ⟨_, rfl⟩
  rw [hW0] at b1 b2 HB0
  obtain ⟨B, hB⟩ : ∃ B, w.heap.size = B := ⟨_, rfl⟩
  have HBE := hid hB
  rw [hB] at b1 b2
  have HM1 := hid b1
  have HM2 := hid b2
  clear b1 b2
  obtain ⟨⟨f0, f1, f2, f3, f4, f5, f6, f7⟩, ff⟩ := g_box8f HM1.out
  clear ff
  have HSx := hid (hS.below HB0.out)
  unfold erV
  go_enter Tryz.func26, Tryz.ntmps26
  go_wp2_with fail
  refine (CO.out _ HB0.out).mono ?_
  rintro e w1 ⟨rfl, hb1⟩
  have HBf := hid (bb HB0.out hb1)
  have HZ := hid (u_blk_below HM2.out hb1)
  have HZ1 := hid (u_blk_below HM1.out hb1)
  have e1 := (HSx.out.below hb1).cells.2
  have hB2 : 1 < B := by
    obtain ⟨t, fr, h⟩ := hS.2.1
    rw [← hB]
    exact lt_of_heap h
  have hn1 : ¬ B + 1 = 1 := by omega
  have hn2 : ¬ 1 = B + 1 := by omega
  have hn3 : ¬ B = 0 := by omega
  have hn4 : ¬ 0 = B := by omega
  clear hb1 CO f0 f1 f2 f3 f4 f5 f6 f7 hW0 hB2
  obtain ⟨⟨k0, k1, k2, k3, k4, k5, k6, k7⟩, kf⟩ := g_box8f HZ.out
  have kf0 := kf 0
  have kf1 := kf 1
  have kf2 := kf 2
  have kf3 := kf 3
  have kf4 := kf 4
  have kf5 := kf 5
  have kf6 := kf 6
  have kf7 := kf 7
  clear kf
  obtain ⟨⟨f0, f1, f2, f3, f4, f5, f6, f7⟩, ff⟩ := g_box8f HZ1.out
  clear ff
  go_wp2_with fail
  refine (CL.out _).mono ?_
  rintro e w2 ⟨rfl, hw2⟩
  obtain rfl := hw2.symm
  go_wp2_with fail
  go_region
  go_wp2_with fail
  ·
    refine bodyPost_ret (v := .tuple #[.agg #[.string ⟨#[]⟩, .slice none 0 0, .int .i64 0, .int .i64 0, .int .i64 0, .slice none 0 0, .int .i64 0, .slice none 0 0], .iface 229 (.pointer (some a1))]) (by simp [results, Tryz.results26, go_sem, k0, k1, k2, k3, k4, k5, k6, k7]) rfl ⟨rfl, ?_⟩
    refine Below.drew ?_
    iterate 8 refine Below.setCell ?_ (show w.heap.size ≤ B + 1 by omega) _
    exact HBf.out

set_option maxRecDepth 8000 in
set_option maxHeartbeats 16000000 in
theorem cLaterNoFar (g : Gt) (ah : Option Addr) (ch : Nat) (aa : Option Addr) (ca : Nat) (ar : Option Addr) (cr : Nat) (d : Int) (a0 a1 : Addr) (w : World) (hS : SenAt a0 a1 w) (hR : GtRow w g ah aa ar) (hz : GtSz 1048576 g) (hg : gateB g = true) (hd : 0 ≤ d) (hx : ¬ d ≤ 3155759999) :
    Calls Tryz.prog 26 #[gtV g ah ch aa ca ar cr, .int .i64 d] w fun e w' => e = .returned (.tuple #[.agg #[.string ⟨#[]⟩, .slice none 0 0, .int .i64 0, .int .i64 0, .int .i64 0, .slice none 0 0, .int .i64 0, .slice none 0 0], erV (.base a1)]) ∧ Below w.heap.size w w' := by
  have CO := hid (fun wx (h : Below w.heap.size w wx) => cGateOkI g ah ch aa ca ar cr wx (hR.below h) hz)
  rw [hg] at CO
  have CL := hid (fun wx => cLaterI g.now d wx)
  rw [later_out hd hx] at CL
  have hd' : ¬ d < 0 := by omega
  have CT := hid (fun wx => cTimeI (-1) wx)
  clear hR hz hg
  unfold gtV at CO ⊢
  generalize g.name = x at *
  generalize g.skew = sk at *
  generalize g.now = nw at *
  generalize g.ask.most = am at *
  generalize g.hrd.most = rm at *
  generalize g.hands.length = nh at *
  generalize g.ask.rows.length = na at *
  generalize g.hrd.rows.length = nr at *
  obtain ⟨b1, b2⟩ := u_heap2 w (.cells #[.string x, .slice ah nh ch, .int .i64 sk, .int .i64 nw, .int .i64 am, .slice aa na ca, .int .i64 rm, .slice ar nr cr] 29) (.cells #[.string ⟨#[]⟩, .slice none 0 0, .int .i64 0, .int .i64 0, .int .i64 0, .slice none 0 0, .int .i64 0, .slice none 0 0] 29)
  have HB0 := hid (((Below.refl w.heap.size w).alloc (Nat.le_refl _) (.cells #[.string x, .slice ah nh ch, .int .i64 sk, .int .i64 nw, .int .i64 am, .slice aa na ca, .int .i64 rm, .slice ar nr cr] 29)).alloc (by simp) (.cells #[.string ⟨#[]⟩, .slice none 0 0, .int .i64 0, .int .i64 0, .int .i64 0, .slice none 0 0, .int .i64 0, .slice none 0 0] 29))
  obtain ⟨W0, hW0⟩ : ∃ W0, (w.alloc (.cells #[.string x, .slice ah nh ch, .int .i64 sk, .int .i64 nw, .int .i64 am, .slice aa na ca, .int .i64 rm, .slice ar nr cr] 29)).alloc (.cells #[.string ⟨#[]⟩, .slice none 0 0, .int .i64 0, .int .i64 0, .int .i64 0, .slice none 0 0, .int .i64 0, .slice none 0 0] 29) = W0 := ⟨_, rfl⟩
  rw [hW0] at b1 b2 HB0
  obtain ⟨B, hB⟩ : ∃ B, w.heap.size = B := ⟨_, rfl⟩
  have HBE := hid hB
  rw [hB] at b1 b2
  have HM1 := hid b1
  have HM2 := hid b2
  clear b1 b2
  obtain ⟨⟨f0, f1, f2, f3, f4, f5, f6, f7⟩, ff⟩ := g_box8f HM1.out
  clear ff
  have HSx := hid (hS.below HB0.out)
  unfold erV
  go_enter Tryz.func26, Tryz.ntmps26
  go_wp2_with fail
  refine (CO.out _ HB0.out).mono ?_
  rintro e w1 ⟨rfl, hb1⟩
  have HBf := hid (bb HB0.out hb1)
  have HZ := hid (u_blk_below HM2.out hb1)
  have HZ1 := hid (u_blk_below HM1.out hb1)
  have e1 := (HSx.out.below hb1).cells.2
  have hB2 : 1 < B := by
    obtain ⟨t, fr, h⟩ := hS.2.1
    rw [← hB]
    exact lt_of_heap h
  have hn1 : ¬ B + 1 = 1 := by omega
  have hn2 : ¬ 1 = B + 1 := by omega
  have hn3 : ¬ B = 0 := by omega
  have hn4 : ¬ 0 = B := by omega
  clear hb1 CO f0 f1 f2 f3 f4 f5 f6 f7 hW0 hB2
  obtain ⟨⟨k0, k1, k2, k3, k4, k5, k6, k7⟩, kf⟩ := g_box8f HZ.out
  have kf0 := kf 0
  have kf1 := kf 1
  have kf2 := kf 2
  have kf3 := kf 3
  have kf4 := kf 4
  have kf5 := kf 5
  have kf6 := kf 6
  have kf7 := kf 7
  clear kf
  obtain ⟨⟨f0, f1, f2, f3, f4, f5, f6, f7⟩, ff⟩ := g_box8f HZ1.out
  clear ff
  go_wp2_with fail
  refine (CL.out _).mono ?_
  rintro e w2 ⟨rfl, hw2⟩
  obtain rfl := hw2.symm
  go_wp2_with fail
  refine (CT.out _).mono ?_
  rintro e w3 ⟨rfl, hw3⟩
  obtain rfl := hw3.symm
  go_wp2_with fail
  go_region
  go_wp2_with fail
  ·
    refine bodyPost_ret (v := .tuple #[.agg #[.string ⟨#[]⟩, .slice none 0 0, .int .i64 0, .int .i64 0, .int .i64 0, .slice none 0 0, .int .i64 0, .slice none 0 0], .iface 229 (.pointer (some a1))]) (by simp [results, Tryz.results26, go_sem, k0, k1, k2, k3, k4, k5, k6, k7]) rfl ⟨rfl, ?_⟩
    refine Below.drew ?_
    iterate 8 refine Below.setCell ?_ (show w.heap.size ≤ B + 1 by omega) _
    exact HBf.out

end Go.Proofs.YtgdfeicojgnoaaaGreatDoor

namespace Go.Proofs.YtgdfeicojgnoaaaGreatDoor
open Go.RowKit
set_option linter.unusedVariables false
set_option linter.unusedSimpArgs false

theorem fin_gate {x : ByteArray} {nh : Nat} {sk nw am rm : Int} {sa sr : List Ro} {lh : List Hd} {N : Gt} {B p : Nat} {w1 w6 w7 w9 wv : World} {K6 K7 K9 : Nat} {a6 a7 a9 : Option Addr} {c6 c7 c9 : Nat}
    (HB : wv.heap[p]? = some (.cells #[.string x, .slice a9 nh c9, .int .i64 sk, .int .i64 nw, .int .i64 am, .slice a6 sa.length c6, .int .i64 rm, .slice a7 sr.length c7] 29 (0, 0))) (hk : u_KeepB (fun b => b = p) w9 wv) (HZ : w9.heap[B + 1]? = some (.cells #[.string ⟨#[]⟩, .slice none 0 0, .int .i64 0, .int .i64 0, .int .i64 0, .slice none 0 0, .int .i64 0, .slice none 0 0] 29 (0, 0))) (hf : Below w1.heap.size w1 w9)
    (hB : B + 1 < w1.heap.size) (hpl : w1.heap.size ≤ p) (o6 : OwnRo w6 K6 a6 sa) (p6 : p < K6 ∨ w6.heap.size ≤ p) (s6 : w1.heap.size ≤ K6) (o7 : OwnRo w7 K7 a7 sr) (p7 : p < K7 ∨ w7.heap.size ≤ p) (s7 : w6.heap.size ≤ K7) (r7 : w1.heap.size ≤ w6.heap.size)
    (b6 : Below w6.heap.size w6 w7) (b7 : Below w7.heap.size w7 w9) (o9 : OwnHd w9 K9 a9 lh) (p9 : p < K9 ∨ w9.heap.size ≤ p) (s9 : w1.heap.size ≤ K9)
    (FIN : ∀ (w6 w7 wz : World) (K6 K7 K9 : Nat) (a6 a7 a9 : Option Addr), OwnRo w6 K6 a6 sa → w6.heap.size ≤ K7 → OwnRo w7 K7 a7 sr → OwnRo wz K6 a6 sa → OwnRo wz K7 a7 sr → OwnHd wz K9 a9 lh → ∀ Bx : Nat, Bx ≤ K6 → Bx ≤ K7 → Bx ≤ K9 → GtOwn wz Bx N a9 a6 a7) :
    ∃ q b6 d6 b7 d7 b9 d9, Value.pointer (some ⟨p, 0, none⟩) = .pointer (some ⟨q, 0, none⟩) ∧ wv.heap[q]? = some (.cells #[.string x, .slice b9 nh d9, .int .i64 sk, .int .i64 nw, .int .i64 am, .slice b6 sa.length d6, .int .i64 rm, .slice b7 sr.length d7] 29 (0, 0)) ∧ wv.heap[B + 1]? = some (.cells #[.string ⟨#[]⟩, .slice none 0 0, .int .i64 0, .int .i64 0, .int .i64 0, .slice none 0 0, .int .i64 0, .slice none 0 0] 29 (0, 0)) ∧ w1.heap.size ≤ q ∧ (∀ u, GtOwn (wv.setCell ⟨q, 3, none⟩ u) w1.heap.size N b9 b6 b7) ∧ Below w1.heap.size w1 wv := by
  refine ⟨p, a6, c6, a7, c7, a9, c9, rfl, HB, (hk.block _ (lt_of_heap HZ) (fun e => by have e' : B + 1 = p := e; omega)).trans HZ, hpl, fun u => ?_, ?_⟩
  · have hk2 := hk.trans (u_KeepB.of_set (p := fun b => b = p) (g := p) _ 3 u rfl)
    exact FIN w6 w7 _ K6 K7 K9 a6 a7 a9 o6 s7 o7 (ro_stands o6 (bb b6 b7) hk2 p6) (ro_stands o7 b7 hk2 p7) (hd_stands o9 (Below.refl _ _) hk2 p9) _ s6 (Nat.le_trans r7 s7) s9
  · exact hf.trans (hk.below hf.size (fun b e => by rw [show b = p from e]; exact hpl))

set_option maxRecDepth 8000 in
set_option maxHeartbeats 16000000 in
theorem cLaterYes (g : Gt) (ah : Option Addr) (ch : Nat) (aa : Option Addr) (ca : Nat) (ar : Option Addr) (cr : Nat) (d : Int) (w : World) (hR : GtRow w g ah aa ar) (hz : GtSz 1048576 g) (hg : gateB g = true) (hd : 0 ≤ d ∧ d ≤ 3155759999) :
    Calls Tryz.prog 26 #[gtV g ah ch aa ca ar cr, .int .i64 d] w fun e w' => ∃ ah' ch' aa' ca' ar' cr', e = .returned (.tuple #[gtV (lateG g (laterOf g.now d)) ah' ch' aa' ca' ar' cr', .nilIface]) ∧ GtOwn w' w.heap.size (lateG g (laterOf g.now d)) ah' aa' ar' ∧ Below w.heap.size w w' := by
  have CO := hid (fun wx (h : Below w.heap.size w wx) => cGateOkI g ah ch aa ca ar cr wx (hR.below h) hz)
  rw [hg] at CO
  obtain ⟨p1, p2, p3, p4⟩ := gate_p hg
  obtain ⟨r1, r2, r3⟩ := gate_rows hg
  obtain ⟨z1, z2, z3, z4, z5, z6, z7⟩ := hz
  have hL := later_in p2 hd
  have CL := hid (fun wx => cLaterI g.now d wx)
  have HGL := hid (show ∀ a1 c1 a2 c2 a3 c3, gtV (lateG g (laterOf g.now d)) a1 c1 a2 c2 a3 c3 = .agg #[.string g.name, .slice a1 g.hands.length c1, .int .i64 g.skew, .int .i64 (laterOf g.now d), .int .i64 g.ask.most, .slice a2 (sweepR g.ask.rows (laterOf g.now d)).length c2, .int .i64 g.hrd.most, .slice a3 (sweepR g.hrd.rows (laterOf g.now d)).length c3] from fun a1 c1 a2 c2 a3 c3 => rfl)
  have HFIN := hid (fun (w6 w7 wz : World) (K6 K7 K9 : Nat) (a6 a7 a9 : Option Addr) (o6 : OwnRo w6 K6 a6 (sweepR g.ask.rows (laterOf g.now d))) (hK : w6.heap.size ≤ K7) (o7 : OwnRo w7 K7 a7 (sweepR g.hrd.rows (laterOf g.now d))) (z6 : OwnRo wz K6 a6 (sweepR g.ask.rows (laterOf g.now d))) (z7 : OwnRo wz K7 a7 (sweepR g.hrd.rows (laterOf g.now d))) (z9 : OwnHd wz K9 a9 g.hands) (Bx : Nat) (q6 : Bx ≤ K6) (q7 : Bx ≤ K7) (q9 : Bx ≤ K9) => (show GtOwn wz Bx (lateG g (laterOf g.now d)) a9 a6 a7 from ⟨z9.mono q9, z6.mono q6, z7.mono q7, apart_of o6 hK o7⟩))
  have CT := hid (fun wx => cTimeI (laterOf g.now d) wx)
  rw [decide_eq_true hL] at CT
  have hU : utmB (laterOf g.now d) = true := decide_eq_true hL
  have CA := fun wx (h : Below w.heap.size w wx) => (cSweptI g.ask aa ca (laterOf g.now d) wx (hR.2.1.below h) z4 z5).mono (R' := fun e w' => ∃ a' c', e = .returned (tbV (sweptT g.ask (laterOf g.now d)) a' c') ∧ OwnRo w' wx.heap.size a' (sweptT g.ask (laterOf g.now d)).rows ∧ Below wx.heap.size wx w') (fun e w' hh => by
    obtain ⟨a', c', h1, h2, h3⟩ := hh
    exact ⟨a', c', h1, h2, h3⟩)
  have CR := fun wx (h : Below w.heap.size w wx) => (cSweptI g.hrd ar cr (laterOf g.now d) wx (hR.2.2.below h) z6 z7).mono (R' := fun e w' => ∃ a' c', e = .returned (tbV (sweptT g.hrd (laterOf g.now d)) a' c') ∧ OwnRo w' wx.heap.size a' (sweptT g.hrd (laterOf g.now d)).rows ∧ Below wx.heap.size wx w') (fun e w' hh => by
    obtain ⟨a', c', h1, h2, h3⟩ := hh
    exact ⟨a', c', h1, h2, h3⟩)
  rw [sweptT_t (by rw [p3, hU]; rfl)] at CA
  rw [sweptT_t (by rw [p4, hU]; rfl)] at CR
  replace CA := hid CA
  replace CR := hid CR
  have CG := hid (fun (aa' : Option Addr) (ca' : Nat) (ar' : Option Addr) (cr' : Nat) wx (h : Below w.heap.size w wx) => (cGateWith g.name g.hands ah ch g.skew g.now g.ask.most aa g.ask.rows.length ca g.hrd.most ar g.hrd.rows.length cr g.ask.most aa' (sweepR g.ask.rows (laterOf g.now d)).length ca' g.hrd.most ar' (sweepR g.hrd.rows (laterOf g.now d)).length cr' wx (hR.1.below h) z2 r1 z1).mono (R' := fun e w' => ∃ ah' ch', e = .returned (.agg #[.string g.name, .slice ah' g.hands.length ch', .int .i64 g.skew, .int .i64 g.now, .int .i64 g.ask.most, .slice aa' (sweepR g.ask.rows (laterOf g.now d)).length ca', .int .i64 g.hrd.most, .slice ar' (sweepR g.hrd.rows (laterOf g.now d)).length cr']) ∧ OwnHd w' wx.heap.size ah' g.hands ∧ Below wx.heap.size wx w') (fun e w' hh => by
    obtain ⟨a', c', h1, h2, h3⟩ := hh
    obtain ⟨a2, c2, e2, h4⟩ := own_hd h2 rfl
    cases e2
    exact ⟨a', c', h1, h4, h3⟩))
  have HOWN := hid (fun (wx : World) (Bx : Nat) (a b c : Option Addr) (h : GtOwn wx Bx (lateG g (laterOf g.now d)) a b c) (R : Nat) (hR : R < Bx) => own_set8 h hR)
  have hd0 : ¬ d < 0 := by omega
  clear hR z1 z2 z3 z4 z5 z6 z7 r1 r2 r3 p1 p2 p3 p4 hg hL hd hU
  obtain ⟨N, hN⟩ : ∃ N, lateG g (laterOf g.now d) = N := ⟨_, rfl⟩
  rw [hN] at HFIN HOWN ⊢
  simp only [hN] at HGL
  clear hN
  unfold gtV at CO
  rw [show gtV g ah ch aa ca ar cr = .agg #[.string g.name, .slice ah g.hands.length ch, .int .i64 g.skew, .int .i64 g.now, .int .i64 g.ask.most, .slice aa g.ask.rows.length ca, .int .i64 g.hrd.most, .slice ar g.hrd.rows.length cr] from rfl]
  unfold tbV at CA CR
  dsimp only at CA CR
  generalize g.name = x at *
  generalize g.skew = sk at *
  generalize g.now = nw at *
  generalize g.ask.most = am at *
  generalize g.hrd.most = rm at *
  generalize g.hands.length = nh at *
  generalize laterOf nw d = L at *
  generalize sweepR g.ask.rows L = sa at *
  generalize sweepR g.hrd.rows L = sr at *
  generalize g.ask.rows.length = na at *
  generalize g.hrd.rows.length = nr at *
  obtain ⟨b1, b2⟩ := u_heap2 w (.cells #[.string x, .slice ah nh ch, .int .i64 sk, .int .i64 nw, .int .i64 am, .slice aa na ca, .int .i64 rm, .slice ar nr cr] 29) (.cells #[.string ⟨#[]⟩, .slice none 0 0, .int .i64 0, .int .i64 0, .int .i64 0, .slice none 0 0, .int .i64 0, .slice none 0 0] 29)
  have HB0 := hid (((Below.refl w.heap.size w).alloc (Nat.le_refl _) (.cells #[.string x, .slice ah nh ch, .int .i64 sk, .int .i64 nw, .int .i64 am, .slice aa na ca, .int .i64 rm, .slice ar nr cr] 29)).alloc (by simp) (.cells #[.string ⟨#[]⟩, .slice none 0 0, .int .i64 0, .int .i64 0, .int .i64 0, .slice none 0 0, .int .i64 0, .slice none 0 0] 29))
  obtain ⟨W0, hW0⟩ : ∃ W0, (w.alloc (.cells #[.string x, .slice ah nh ch, .int .i64 sk, .int .i64 nw, .int .i64 am, .slice aa na ca, .int .i64 rm, .slice ar nr cr] 29)).alloc (.cells #[.string ⟨#[]⟩, .slice none 0 0, .int .i64 0, .int .i64 0, .int .i64 0, .slice none 0 0, .int .i64 0, .slice none 0 0] 29) = W0 := ⟨_, rfl⟩
  rw [hW0] at b1 b2 HB0
  obtain ⟨B, hB⟩ : ∃ B, w.heap.size = B := ⟨_, rfl⟩
  have HBE := hid hB
  rw [hB] at b1 b2
  have HM1 := hid b1
  have HM2 := hid b2
  clear b1 b2
  obtain ⟨⟨f0, f1, f2, f3, f4, f5, f6, f7⟩, ff⟩ := g_box8f HM1.out
  clear ff

  go_enter Tryz.func26, Tryz.ntmps26
  go_wp2_with fail
  refine (CO.out _ HB0.out).mono ?_
  rintro e w1 ⟨rfl, hb1⟩
  have HBi := hid (bb HB0.out hb1)
  have HZ := hid (u_blk_below HM2.out hb1)
  have HZ1 := hid (u_blk_below HM1.out hb1)
  clear hb1 CO f0 f1 f2 f3 f4 f5 f6 f7 hW0
  obtain ⟨⟨f0, f1, f2, f3, f4, f5, f6, f7⟩, ff⟩ := g_box8f HZ1.out
  clear ff

  go_wp2_with fail
  refine (CL.out _).mono ?_
  rintro e w2 ⟨rfl, hw2⟩
  obtain rfl := hw2.symm
  go_wp2_with fail
  refine (CT.out _).mono ?_
  rintro e w3 ⟨rfl, hw3⟩
  obtain rfl := hw3.symm
  go_upto_region 6 with fail
  clear f0 f1 f2 f3 f4 f5 f6 f7
  have HLT := hid (show B + 1 < w1.heap.size from lt_of_heap HZ.out)
  go_cut [7] from 26 to 38 (fun v wv => Hid (∃ p a6 c6 a7 c7 a9 c9, v = .pointer (some ⟨p, 0, none⟩) ∧ wv.heap[p]? = some (.cells #[.string x, .slice a9 nh c9, .int .i64 sk, .int .i64 nw, .int .i64 am, .slice a6 sa.length c6, .int .i64 rm, .slice a7 sr.length c7] 29 (0, 0)) ∧ wv.heap[B + 1]? = some (.cells #[.string ⟨#[]⟩, .slice none 0 0, .int .i64 0, .int .i64 0, .int .i64 0, .slice none 0 0, .int .i64 0, .slice none 0 0] 29 (0, 0)) ∧ w1.heap.size ≤ p ∧ (∀ u, GtOwn (wv.setCell ⟨p, 3, none⟩ u) w1.heap.size N a9 a6 a7) ∧ Below w1.heap.size w1 wv))
  case first =>
    have HBf := hid ((Below.refl w1.heap.size w1).drew)
    have HBc := hid (HBf.out.mono (Nat.le_of_lt HLT.out))
    have HSX := hid (show ∀ w', Below (B + 1) w1 w' → (w'.cell? ⟨B, 0, none⟩ = some (.string x) ∧ w'.cell? ⟨B, 1, none⟩ = some (.slice ah nh ch) ∧ w'.cell? ⟨B, 2, none⟩ = some (.int .i64 sk) ∧ w'.cell? ⟨B, 3, none⟩ = some (.int .i64 nw) ∧ w'.cell? ⟨B, 4, none⟩ = some (.int .i64 am) ∧ w'.cell? ⟨B, 5, none⟩ = some (.slice aa na ca) ∧ w'.cell? ⟨B, 6, none⟩ = some (.int .i64 rm) ∧ w'.cell? ⟨B, 7, none⟩ = some (.slice ar nr cr)) from fun w' hb => (g_box8f ((hb.block B (by omega)).trans HZ1.out)).1)
    have HQ1 := hid (show B + 1 ≤ w1.drew.heap.size from Nat.le_of_lt HLT.out)
    have HND := hid (show ((w1.alloc (.cells #[.string ⟨#[]⟩, .slice none 0 0, .int .i64 0, .int .i64 0, .int .i64 0, .slice none 0 0, .int .i64 0, .slice none 0 0] 29)).drew).heap[w1.heap.size]? = some (.cells #[.string ⟨#[]⟩, .slice none 0 0, .int .i64 0, .int .i64 0, .int .i64 0, .slice none 0 0, .int .i64 0, .slice none 0 0] 29) from by have h := ((Below.refl (w1.heap.size + 1) (w1.alloc (.cells #[.string ⟨#[]⟩, .slice none 0 0, .int .i64 0, .int .i64 0, .int .i64 0, .slice none 0 0, .int .i64 0, .slice none 0 0] 29))).drew).block w1.heap.size (Nat.lt_succ_self _); exact h.trans (heap_alloc_new w1 (.cells #[.string ⟨#[]⟩, .slice none 0 0, .int .i64 0, .int .i64 0, .int .i64 0, .slice none 0 0, .int .i64 0, .slice none 0 0] 29)))
    have HBA := hid (fun o => ((Below.refl (B + 1) w1).alloc (Nat.le_of_lt HLT.out) o).drew)
    have HBD := hid (fun o => ((Below.refl w1.heap.size w1).alloc (Nat.le_refl _) o).drew)
    have HQ := HQ1
    go_region_held3 (fun w' => (w'.cell? ⟨B, 0, none⟩ = some (.string x) ∧ w'.cell? ⟨B, 1, none⟩ = some (.slice ah nh ch) ∧ w'.cell? ⟨B, 2, none⟩ = some (.int .i64 sk) ∧ w'.cell? ⟨B, 3, none⟩ = some (.int .i64 nw) ∧ w'.cell? ⟨B, 4, none⟩ = some (.int .i64 am) ∧ w'.cell? ⟨B, 5, none⟩ = some (.slice aa na ca) ∧ w'.cell? ⟨B, 6, none⟩ = some (.int .i64 rm) ∧ w'.cell? ⟨B, 7, none⟩ = some (.slice ar nr cr))) (first | with_reducible exact HSX.out _ HBc.out | with_reducible exact HSX.out _ (HBc.out.alloc HQ.out _) | with_reducible exact HSX.out _ (HBA.out _) | (refine HSX.out _ ?_; (iterate 8 refine Below.setCell ?_ (by first | with_reducible exact HQ9.out | with_reducible exact HQ7.out | with_reducible exact HQ6.out | with_reducible exact Nat.le_of_lt HLT.out | with_reducible exact HQ1.out) _); first | with_reducible exact HBc.out | with_reducible exact HBc.out.alloc HQ.out _))
      (first
        | (go_at_call 65; with_reducible refine (CA.out _ (by first | with_reducible exact bb HBi.out HBf.out | with_reducible exact bb HBi.out (HBf.out.alloc HBf.out.size _) | with_reducible exact bb HBi.out (HBD.out _))).mono ?_; rintro e w6 ⟨a6, c6, rfl, ho6, hb6⟩; have HO6 := hid ho6; have HBn := hid (show Below w1.heap.size w1 w6 from by first | with_reducible exact bb HBf.out hb6 | with_reducible exact bb (HBf.out.alloc HBf.out.size _) hb6 | with_reducible exact bb (HBD.out _) hb6); clear HBf; have HBf := HBn; clear HBn; have HS6 := hid HBf.out.size; replace HBc := hid (HBf.out.mono (Nat.le_of_lt HLT.out)); have HQ6 := hid (show B + 1 ≤ w6.heap.size from Nat.le_trans (Nat.le_of_lt HLT.out) HBf.out.size); replace HQ := HQ6; (first | (replace HNx := hid (u_blk_below HNx.out (show Below _ _ w6 from by first | with_reducible exact hb6 | with_reducible exact H0.out))) | (have HNx := hid (u_blk_below HND.out hb6)) | (have HNx := hid (u_blk_below (heap_alloc_new _ (.cells #[.string ⟨#[]⟩, .slice none 0 0, .int .i64 0, .int .i64 0, .int .i64 0, .slice none 0 0, .int .i64 0, .slice none 0 0] 29)) hb6)) | skip); (try have HP6 := hid (lt_of_heap HNx.out)); clear ho6 hb6)
        | (go_at_call 65; with_reducible refine (CR.out _ (by first | with_reducible exact bb HBi.out HBf.out | with_reducible exact bb HBi.out (HBf.out.alloc HBf.out.size _))).mono ?_; rintro e w7 ⟨a7, c7, rfl, ho7, hb7⟩; have HO7 := hid ho7; have HBn := hid (show Below w1.heap.size w1 w7 from by first | with_reducible exact bb HBf.out hb7 | with_reducible exact bb (HBf.out.alloc HBf.out.size _) hb7); have H6 := hid (show Below w6.heap.size w6 w7 from by first | with_reducible exact hb7 | with_reducible exact bb ((Below.refl _ _).alloc (Nat.le_refl _) _) hb7); clear HBf; have HBf := HBn; clear HBn; replace HBc := hid (HBf.out.mono (Nat.le_of_lt HLT.out)); have HQ7 := hid (show B + 1 ≤ w7.heap.size from Nat.le_trans (Nat.le_of_lt HLT.out) HBf.out.size); replace HQ := HQ7; (first | (replace HNx := hid (u_blk_below HNx.out (show Below _ _ w7 from by first | with_reducible exact hb7 | with_reducible exact H6.out))) | (have HNx := hid (u_blk_below (heap_alloc_new _ (.cells #[.string ⟨#[]⟩, .slice none 0 0, .int .i64 0, .int .i64 0, .int .i64 0, .slice none 0 0, .int .i64 0, .slice none 0 0] 29)) hb7)) | skip); (try have HP7 := hid (lt_of_heap HNx.out)); clear ho7 hb7)
        | (go_at_call 64; with_reducible refine (CG.out a6 c6 a7 c7 _ (by first | with_reducible exact bb HBi.out HBf.out | with_reducible exact bb HBi.out (HBf.out.alloc HBf.out.size _))).mono ?_; rintro e w9 ⟨a9, c9, rfl, ho9, hb9⟩; have HO9 := hid ho9; have HBn := hid (show Below w1.heap.size w1 w9 from by first | with_reducible exact bb HBf.out hb9 | with_reducible exact bb (HBf.out.alloc HBf.out.size _) hb9); have H7 := hid (show Below w7.heap.size w7 w9 from by first | with_reducible exact hb9 | with_reducible exact bb ((Below.refl _ _).alloc (Nat.le_refl _) _) hb9); clear HBf; have HBf := HBn; clear HBn; replace HBc := hid (HBf.out.mono (Nat.le_of_lt HLT.out)); have HQ9 := hid (show B + 1 ≤ w9.heap.size from Nat.le_trans (Nat.le_of_lt HLT.out) HBf.out.size); replace HQ := HQ9; (first | (replace HNx := hid (u_blk_below HNx.out (show Below _ _ w9 from by first | with_reducible exact hb9 | with_reducible exact H7.out))) | (have HNx := hid (u_blk_below (heap_alloc_new _ (.cells #[.string ⟨#[]⟩, .slice none 0 0, .int .i64 0, .int .i64 0, .int .i64 0, .slice none 0 0, .int .i64 0, .slice none 0 0] 29)) hb9)) | skip);  (first | (have HNy := hid HNx.out) | (have HNy := hid (heap_alloc_new w9 (.cells #[.string ⟨#[]⟩, .slice none 0 0, .int .i64 0, .int .i64 0, .int .i64 0, .slice none 0 0, .int .i64 0, .slice none 0 0] 29)))); obtain ⟨⟨n0, n1, n2, n3, n4, n5, n6, n7⟩, nf⟩ := g_box8f HNy.out; have nf0 := nf 0; have nf1 := nf 1; have nf2 := nf 2; have nf3 := nf 3; have nf4 := nf 4; have nf5 := nf 5; have nf6 := nf 6; have nf7 := nf 7; have HZ9 := hid (u_blk_below HZ.out HBf.out); clear nf; (try (have m := (show w9.heap[w1.heap.size]? = some (.cells #[.string ⟨#[]⟩, .slice none 0 0, .int .i64 0, .int .i64 0, .int .i64 0, .slice none 0 0, .int .i64 0, .slice none 0 0] 29 (0, 0)) from HNx.out); obtain ⟨⟨m0, m1, m2, m3, m4, m5, m6, m7⟩, mf⟩ := g_box8f m; have mf0 := mf 0; have mf1 := mf 1; have mf2 := mf 2; have mf3 := mf 3; have mf4 := mf 4; have mf5 := mf 5; have mf6 := mf 6; have mf7 := mf 7; clear mf)); clear ho9 hb9))
    all_goals
      go_wp2_with fail
      go_meet
      refine hid ?_
      first
        | (have _hh := HP6.out; exact fin_gate (box8_new HNy.out _ _ _ _ _ _ _ _) (keep8 w9 _ _ _ _ _ _ _ _ _) HZ9.out HBf.out HLT.out (Nat.le_refl _) HO6.out (.inl (lt_of_heap HND.out)) (Nat.le_of_lt (lt_of_heap HND.out)) HO7.out (.inl HP6.out) (Nat.le_refl _) HS6.out H6.out H7.out HO9.out (.inl HP7.out) (Nat.le_trans HS6.out H6.out.size) HFIN.out)
        | (have _hh := HP7.out; exact fin_gate (box8_new HNy.out _ _ _ _ _ _ _ _) (keep8 w9 _ _ _ _ _ _ _ _ _) HZ9.out HBf.out HLT.out HS6.out HO6.out (.inr (Nat.le_refl _)) ((Below.refl w1.heap.size w1).drew).size HO7.out (.inl (lt_of_heap (heap_alloc_new w6 (.cells #[.string ⟨#[]⟩, .slice none 0 0, .int .i64 0, .int .i64 0, .int .i64 0, .slice none 0 0, .int .i64 0, .slice none 0 0] 29)))) (Nat.le_of_lt (lt_of_heap (heap_alloc_new w6 (.cells #[.string ⟨#[]⟩, .slice none 0 0, .int .i64 0, .int .i64 0, .int .i64 0, .slice none 0 0, .int .i64 0, .slice none 0 0] 29)))) HS6.out H6.out H7.out HO9.out (.inl HP7.out) (Nat.le_trans HS6.out H6.out.size) HFIN.out)
        | (have _hh := HNx.out; exact fin_gate (box8_new HNy.out _ _ _ _ _ _ _ _) (keep8 w9 _ _ _ _ _ _ _ _ _) HZ9.out HBf.out HLT.out (Nat.le_trans HS6.out H6.out.size) HO6.out (.inr H6.out.size) ((Below.refl w1.heap.size w1).drew).size HO7.out (.inr (Nat.le_refl _)) (Nat.le_refl _) HS6.out H6.out H7.out HO9.out (.inl (lt_of_heap (heap_alloc_new w7 (.cells #[.string ⟨#[]⟩, .slice none 0 0, .int .i64 0, .int .i64 0, .int .i64 0, .slice none 0 0, .int .i64 0, .slice none 0 0] 29)))) (Nat.le_trans (Nat.le_trans HS6.out H6.out.size) (Nat.le_of_lt (lt_of_heap (heap_alloc_new w7 (.cells #[.string ⟨#[]⟩, .slice none 0 0, .int .i64 0, .int .i64 0, .int .i64 0, .slice none 0 0, .int .i64 0, .slice none 0 0] 29))))) HFIN.out)
        | (exact fin_gate (heap_alloc_new w9 _) (u_KeepB.of_below _ ((Below.refl w9.heap.size w9).alloc (Nat.le_refl _) _)) HZ9.out HBf.out HLT.out HBf.out.size HO6.out (.inr (Nat.le_trans H6.out.size H7.out.size)) ((Below.refl w1.heap.size w1).drew).size HO7.out (.inr H7.out.size) (Nat.le_refl _) HS6.out H6.out H7.out HO9.out (.inr (Nat.le_refl _)) (Nat.le_trans HS6.out H6.out.size) HFIN.out)
  case rest =>
    obtain ⟨p, a6, c6, a7, c7, a9, c9, rfl, hp, hz, hpl, hown, hbv⟩ := hcut.out
    have HOW := hid (hown (.int .i64 L))
    have HBV := hid hbv
    have hne : ¬ p = B + 1 := by have := HLT.out; omega
    have HP := hid (show (wc.setCell ⟨p, 3, none⟩ (.int .i64 L)).heap[p]? = some (.cells #[.string x, .slice a9 nh c9, .int .i64 sk, .int .i64 L, .int .i64 am, .slice a6 sa.length c6, .int .i64 rm, .slice a7 sr.length c7] 29 (0, 0)) from box8_set hp 3 (.int .i64 L))
    have HZ := hid (((u_KeepB.of_set (p := fun b => b = p) (g := p) wc 3 (.int .i64 L) rfl).block (B + 1) (lt_of_heap hz) (fun e => hne (show B + 1 = p from e).symm)).trans hz)
    have HB2 := hid (hbv.setCell (p := ⟨p, 3, none⟩) hpl (.int .i64 L))
    obtain ⟨⟨n0, n1, n2, n3, n4, n5, n6, n7⟩, nf⟩ := g_box8f hp
    have nf3 := nf 3
    clear nf hcut hown hbv hp hz n0 n1 n2 n4 n5 n6 n7 hne
    go_upto_region 8 with fail
    obtain ⟨W9, hW9⟩ : ∃ W9, wc.setCell ⟨p, 3, none⟩ (.int .i64 L) = W9 := ⟨_, rfl⟩
    rw [hW9] at HOW HP HZ HB2 ⊢
    clear hW9 n3 nf3
    obtain ⟨⟨n0, n1, n2, n3, n4, n5, n6, n7⟩, nf⟩ := g_box8f HP.out
    clear nf
    obtain ⟨⟨k0, k1, k2, k3, k4, k5, k6, k7⟩, kf⟩ := g_box8f HZ.out
    have kf0 := kf 0
    have kf1 := kf 1
    have kf2 := kf 2
    have kf3 := kf 3
    have kf4 := kf 4
    have kf5 := kf 5
    have kf6 := kf 6
    have kf7 := kf 7
    clear kf

    go_wp2_with fail
    refine bodyPost_ret (v := .tuple #[.agg #[.string x, .slice a9 nh c9, .int .i64 sk, .int .i64 L, .int .i64 am, .slice a6 sa.length c6, .int .i64 rm, .slice a7 sr.length c7], .nilIface]) (by simp [results, Tryz.results26, go_sem, k0, k1, k2, k3, k4, k5, k6, k7]) rfl ⟨a9, c9, a6, c6, a7, c7, by rw [HGL.out], ?_, ?_⟩
    · refine (HOWN.out _ _ _ _ _ HOW.out (B + 1) HLT.out _ _ _ _ _ _ _ _).mono ?_
      exact (HBi.out).size
    · iterate 8 refine Below.setCell ?_ (show w.heap.size ≤ B + 1 by omega) _
      exact bb HBi.out HB2.out

end Go.Proofs.YtgdfeicojgnoaaaGreatDoor
