/- The contract of the specification's GateOk. The specification's l17Copy and NewGate. -/
import Derived.Test.YtnjepdggefchnaaGreatDoorM9
import Derived.Test.YtnjepdggefchnaaGreatDoorM20
import Derived.Test.YtnjepdggefchnaaGreatDoorM12
import Derived.Deep.QuietTactic
import Derived.BigQuiet
namespace Go.Proofs.YtnjepdggefchnaaGreatDoor
open Go.RowKit
set_option linter.unusedVariables false
set_option linter.unusedSimpArgs false

set_option maxRecDepth 8000 in
set_option maxHeartbeats 16000000 in
theorem cGateOkS (g : Gt) (ah : Option Addr) (ch : Nat) (aa : Option Addr) (ca : Nat) (ar : Option Addr) (cr : Nat) (w : World) (hR : GtRow w g ah aa ar) (hz : GtSz 1048576 g) :
    Calls Tryz.prog 13 #[gtV g ah ch aa ca ar cr] w fun e w' => e = .returned (.bool (gateB g)) ∧ Below w.heap.size w w' := by
  obtain ⟨z1, z2, z3, z4, z5, z6, z7⟩ := hz
  have CW := hid (fun wx => g_c_spec_l14Word g.name wx z1)
  have CS := hid (fun wx => g_cSkewS g.skew wx)
  have CT := hid (fun wx => cTimeS g.now wx)
  have CA := hid (fun wx (h : Below w.heap.size w wx) => cTableOkS g.ask aa ca wx (hR.2.1.below h) z4 z5)
  have CR := hid (fun wx (h : Below w.heap.size w wx) => cTableOkS g.hrd ar cr wx (hR.2.2.below h) z6 z7)
  have hM : decide (0 ≤ g.now ∧ g.now ≤ 3155759999) = utmB g.now := rfl
  rw [hM] at CT
  have HR := hid hR.1
  have HZ := hid z2
  have hn : g.hands.length ≤ 1048576 := z3
  clear hM hR z1 z2 z3 z4 z5 z6 z7
  have HX0 := hid (GtBox.new w g.name (.slice ah g.hands.length ch) g.skew g.now g.ask.most (.slice aa g.ask.rows.length ca) g.hrd.most (.slice ar g.hrd.rows.length cr) 34)
  have HB0 := hid ((Below.refl w.heap.size w).alloc (Nat.le_refl _) (.cells #[.string g.name, .slice ah g.hands.length ch, .int .i64 g.skew, .int .i64 g.now, .int .i64 g.ask.most, .slice aa g.ask.rows.length ca, .int .i64 g.hrd.most, .slice ar g.hrd.rows.length cr] 34))
  unfold gtV gateB
  unfold tbV at CA CR
  generalize g_wordB g.name = b1 at *
  generalize g_skB g.skew = b3 at *
  generalize utmB g.now = b4 at *
  generalize tableB g.ask = b5 at *
  generalize tableB g.hrd = b6 at *
  generalize g.name = x at *
  generalize g.skew = sk at *
  generalize g.now = nw at *
  generalize g.ask.most = am at *
  generalize g.ask.rows.length = na at *
  generalize g.hrd.most = rm at *
  generalize g.hrd.rows.length = nr at *
  generalize g.hands = l at *
  have HT4 := hid (fun h => handsB_t (l := l) h)
  have HF4 := hid (fun h => handsB_4 (l := l) h)
  have HFF := hid (fun (i : Nat) (hi : i < l.length) h => handsB_f (l := l) hi h)
  obtain ⟨b2, hV⟩ : ∃ V, handsB l = V := ⟨_, rfl⟩
  rw [hV] at HT4 HF4 ⊢
  simp only [hV] at HFF
  clear hV
  obtain ⟨n, hnn⟩ : ∃ n, l.length = n := ⟨_, rfl⟩
  have HN := hid hnn
  rw [hnn] at hn HX0 HB0 HT4 HF4 ⊢
  clear hnn
  obtain ⟨W0, hW0⟩ : ∃ W0, w.alloc (.cells #[.string x, .slice ah n ch, .int .i64 sk, .int .i64 nw, .int .i64 am, .slice aa na ca, .int .i64 rm, .slice ar nr cr] 34) = W0 := ⟨_, rfl⟩
  rw [hW0] at HX0 HB0
  obtain ⟨B, hB⟩ : ∃ B, w.heap.size = B := ⟨_, rfl⟩
  rw [hB] at HX0
  have HFIN := hid (show b2 = false → (b1 && (b2 && (b3 && (b4 && (b5 && b6))))) = false from fun h => by rw [h]; simp)
  have HGO := hid (show (b1 && (b2 && (b3 && (b4 && (b5 && b6))))) = (b1 && (b2 && (b3 && (b4 && (b5 && b6))))) from rfl)
  obtain ⟨V, hV⟩ : ∃ V, (b1 && (b2 && (b3 && (b4 && (b5 && b6))))) = V := ⟨_, rfl⟩
  have HV := hid hV
  rw [hV] at HFIN ⊢
  clear hV HGO
  go_enter Tryz.func13, Tryz.ntmps13
  go_wp2_with fail
  clear hW0
  go_loopw [3] (fun k wr => ∃ i : Nat, k = .int .i64 (i : Int) ∧ i ≤ n ∧ Hid (HandsP l i) ∧ Hid (Below w.heap.size w wr) ∧ Hid (GtBox wr B x (.slice ah n ch) sk nw am (.slice aa na ca) rm (.slice ar nr cr))) (fun k _ => n - (intOf k).toNat)
  case atStart => exact ⟨0, rfl, Nat.zero_le _, HandsP.zero _, HB0.out, HX0.out⟩
  case round =>
    clear HX0 HB0
    obtain ⟨i, rfl, hi, HP, HB0, HX0⟩ := hrel
    by_cases hlt : i < n
    case neg =>
      have hie : i = n := by omega
      subst hie
      have HT := hid (fun h => HT4.out h HP.out)
      clear HP HFF HT4 HR HZ
      by_cases h4 : i ≤ 4
      case neg =>
        have hv := HFIN.out (HF4.out h4)
        subst hv
        have h4' : ¬ (i : Int) ≤ 4 := by omega
        clear HF4 HFIN HT HV
        obtain ⟨f0, f1, f2, f3, f4, f5, f6, f7⟩ := HX0.out.cells
        go_wp2_with fail
        go_ret
        exact ⟨rfl, by first | exact HB0.out | (rw [← hB]; exact HB0.out)⟩
      have h4' : (i : Int) ≤ 4 := by omega
      have hv := HV.out
      rw [HT.out h4] at hv
      clear HF4 HFIN HT HV h4
      simp only [Bool.true_and] at hv
      subst hv
      cases b1 with
      | false =>
        obtain ⟨f0, f1, f2, f3, f4, f5, f6, f7⟩ := HX0.out.cells
        go_wp2_with fail
        refine (CW.out _).mono ?_
        rintro e w1 ⟨rfl, hb⟩
        have HB1 := hid (bb HB0.out hb)
        have HX1 := hid (HX0.out.below hb)
        clear hb f0 f1 f2 f3 f4 f5 f6 f7
        go_wp2_with fail
        go_ret
        exact ⟨rfl, HB1.out⟩
      | true =>
      cases b3 with
      | false =>
        obtain ⟨f0, f1, f2, f3, f4, f5, f6, f7⟩ := HX0.out.cells
        go_wp2_with fail
        refine (CW.out _).mono ?_
        rintro e w1 ⟨rfl, hb⟩
        have HB1 := hid (bb HB0.out hb)
        have HX1 := hid (HX0.out.below hb)
        clear hb f0 f1 f2 f3 f4 f5 f6 f7
        obtain ⟨f0, f1, f2, f3, f4, f5, f6, f7⟩ := HX1.out.cells
        go_wp2_with fail
        refine (CS.out _).mono ?_
        rintro e w2 ⟨rfl, rfl⟩
        have HB2 := HB1
        have HX2 := HX1
        clear f0 f1 f2 f3 f4 f5 f6 f7
        go_wp2_with fail
        go_ret
        exact ⟨rfl, HB2.out⟩
      | true =>
      cases b4 with
      | false =>
        obtain ⟨f0, f1, f2, f3, f4, f5, f6, f7⟩ := HX0.out.cells
        go_wp2_with fail
        refine (CW.out _).mono ?_
        rintro e w1 ⟨rfl, hb⟩
        have HB1 := hid (bb HB0.out hb)
        have HX1 := hid (HX0.out.below hb)
        clear hb f0 f1 f2 f3 f4 f5 f6 f7
        obtain ⟨f0, f1, f2, f3, f4, f5, f6, f7⟩ := HX1.out.cells
        go_wp2_with fail
        refine (CS.out _).mono ?_
        rintro e w2 ⟨rfl, rfl⟩
        have HB2 := HB1
        have HX2 := HX1
        clear f0 f1 f2 f3 f4 f5 f6 f7
        obtain ⟨f0, f1, f2, f3, f4, f5, f6, f7⟩ := HX2.out.cells
        go_wp2_with fail
        refine (CT.out _).mono ?_
        rintro e w3 ⟨rfl, rfl⟩
        have HB3 := HB2
        have HX3 := HX2
        clear f0 f1 f2 f3 f4 f5 f6 f7
        go_wp2_with fail
        go_ret
        exact ⟨rfl, HB3.out⟩
      | true =>
      cases b5 with
      | false =>
        obtain ⟨f0, f1, f2, f3, f4, f5, f6, f7⟩ := HX0.out.cells
        go_wp2_with fail
        refine (CW.out _).mono ?_
        rintro e w1 ⟨rfl, hb⟩
        have HB1 := hid (bb HB0.out hb)
        have HX1 := hid (HX0.out.below hb)
        clear hb f0 f1 f2 f3 f4 f5 f6 f7
        obtain ⟨f0, f1, f2, f3, f4, f5, f6, f7⟩ := HX1.out.cells
        go_wp2_with fail
        refine (CS.out _).mono ?_
        rintro e w2 ⟨rfl, rfl⟩
        have HB2 := HB1
        have HX2 := HX1
        clear f0 f1 f2 f3 f4 f5 f6 f7
        obtain ⟨f0, f1, f2, f3, f4, f5, f6, f7⟩ := HX2.out.cells
        go_wp2_with fail
        refine (CT.out _).mono ?_
        rintro e w3 ⟨rfl, rfl⟩
        have HB3 := HB2
        have HX3 := HX2
        clear f0 f1 f2 f3 f4 f5 f6 f7
        obtain ⟨f0, f1, f2, f3, f4, f5, f6, f7⟩ := HX3.out.cells
        go_wp2_with fail
        refine (CA.out _ HB3.out).mono ?_
        rintro e w4 ⟨rfl, hb⟩
        have HB4 := hid (bb HB3.out hb)
        have HX4 := hid (HX3.out.below hb)
        clear hb f0 f1 f2 f3 f4 f5 f6 f7
        go_wp2_with fail
        go_ret
        exact ⟨rfl, HB4.out⟩
      | true =>
      cases b6 with
      | false =>
        obtain ⟨f0, f1, f2, f3, f4, f5, f6, f7⟩ := HX0.out.cells
        go_wp2_with fail
        refine (CW.out _).mono ?_
        rintro e w1 ⟨rfl, hb⟩
        have HB1 := hid (bb HB0.out hb)
        have HX1 := hid (HX0.out.below hb)
        clear hb f0 f1 f2 f3 f4 f5 f6 f7
        obtain ⟨f0, f1, f2, f3, f4, f5, f6, f7⟩ := HX1.out.cells
        go_wp2_with fail
        refine (CS.out _).mono ?_
        rintro e w2 ⟨rfl, rfl⟩
        have HB2 := HB1
        have HX2 := HX1
        clear f0 f1 f2 f3 f4 f5 f6 f7
        obtain ⟨f0, f1, f2, f3, f4, f5, f6, f7⟩ := HX2.out.cells
        go_wp2_with fail
        refine (CT.out _).mono ?_
        rintro e w3 ⟨rfl, rfl⟩
        have HB3 := HB2
        have HX3 := HX2
        clear f0 f1 f2 f3 f4 f5 f6 f7
        obtain ⟨f0, f1, f2, f3, f4, f5, f6, f7⟩ := HX3.out.cells
        go_wp2_with fail
        refine (CA.out _ HB3.out).mono ?_
        rintro e w4 ⟨rfl, hb⟩
        have HB4 := hid (bb HB3.out hb)
        have HX4 := hid (HX3.out.below hb)
        clear hb f0 f1 f2 f3 f4 f5 f6 f7
        obtain ⟨f0, f1, f2, f3, f4, f5, f6, f7⟩ := HX4.out.cells
        go_wp2_with fail
        refine (CR.out _ HB4.out).mono ?_
        rintro e w5 ⟨rfl, hb⟩
        have HB5 := hid (bb HB4.out hb)
        have HX5 := hid (HX4.out.below hb)
        clear hb f0 f1 f2 f3 f4 f5 f6 f7
        go_wp2_with fail
        go_ret
        exact ⟨rfl, HB5.out⟩
      | true =>
      obtain ⟨f0, f1, f2, f3, f4, f5, f6, f7⟩ := HX0.out.cells
      go_wp2_with fail
      refine (CW.out _).mono ?_
      rintro e w1 ⟨rfl, hb⟩
      have HB1 := hid (bb HB0.out hb)
      have HX1 := hid (HX0.out.below hb)
      clear hb f0 f1 f2 f3 f4 f5 f6 f7
      obtain ⟨f0, f1, f2, f3, f4, f5, f6, f7⟩ := HX1.out.cells
      go_wp2_with fail
      refine (CS.out _).mono ?_
      rintro e w2 ⟨rfl, rfl⟩
      have HB2 := HB1
      have HX2 := HX1
      clear f0 f1 f2 f3 f4 f5 f6 f7
      obtain ⟨f0, f1, f2, f3, f4, f5, f6, f7⟩ := HX2.out.cells
      go_wp2_with fail
      refine (CT.out _).mono ?_
      rintro e w3 ⟨rfl, rfl⟩
      have HB3 := HB2
      have HX3 := HX2
      clear f0 f1 f2 f3 f4 f5 f6 f7
      obtain ⟨f0, f1, f2, f3, f4, f5, f6, f7⟩ := HX3.out.cells
      go_wp2_with fail
      refine (CA.out _ HB3.out).mono ?_
      rintro e w4 ⟨rfl, hb⟩
      have HB4 := hid (bb HB3.out hb)
      have HX4 := hid (HX3.out.below hb)
      clear hb f0 f1 f2 f3 f4 f5 f6 f7
      obtain ⟨f0, f1, f2, f3, f4, f5, f6, f7⟩ := HX4.out.cells
      go_wp2_with fail
      refine (CR.out _ HB4.out).mono ?_
      rintro e w5 ⟨rfl, hb⟩
      have HB5 := hid (bb HB4.out hb)
      have HX5 := hid (HX4.out.below hb)
      clear hb f0 f1 f2 f3 f4 f5 f6 f7
      go_wp2_with fail
      go_ret
      exact ⟨rfl, HB5.out⟩
    have his : i < l.length := by rw [HN.out]; exact hlt
    obtain ⟨b, o, rfl, hbl, c0, c1, c2, c3⟩ := HR.out.below HB0.out i his
    have hin : (i : Int) < (n : Int) := by omega
    have HFI := hid (fun h => HFIN.out (HFF.out i his h))
    have HST := hid (fun h => HP.out.step his h)
    have HRI := hid (HR.out)
    have CW1 := hid (fun wx => g_c_spec_l14Word l[i].iss wx (HZ.out _ (List.getElem_mem his)))
    have CK1 := hid (fun wx => g_cKeyOkS l[i].n l[i].e l[i].d wx)
    unfold HandAt handB at HFI HST
    generalize hdx : l[i].iss = y at *
    generalize hdn : l[i].n = kn at *
    generalize hde : l[i].e = ke at *
    generalize hdd : l[i].d = kd at *
    clear hdx hdn hde hdd
    obtain ⟨f0, f1, f2, f3, f4, f5, f6, f7⟩ := HX0.out.cells
    have HY := hid (HdBox.new wr y kn ke kd 69)
    have HA := hid ((Below.refl wr.heap.size wr).alloc (Nat.le_refl _) (.cells #[.string y, .int .i64 kn, .int .i64 ke, .int .i64 kd] 69))
    obtain ⟨W1, hW1⟩ : ∃ W1, wr.alloc (.cells #[.string y, .int .i64 kn, .int .i64 ke, .int .i64 kd] 69) = W1 := ⟨_, rfl⟩
    rw [hW1] at HY HA
    obtain ⟨D, hD⟩ : ∃ D, wr.heap.size = D := ⟨_, rfl⟩
    rw [hD] at HY
    have HB1 := hid (bb HB0.out HA.out)
    have HX1 := hid (HX0.out.below HA.out)
    clear HP HFF HT4 HF4 HB0 HX0 HA
    obtain ⟨y0, y1, y2, y3⟩ := And.intro HY.out.c0 (And.intro HY.out.c1 (And.intro HY.out.c2 HY.out.c3))
    go_wp2_with fail
    refine (CW1.out _).mono ?_
    rintro e w1 ⟨rfl, hb⟩
    have HB2 := hid (bb HB1.out hb)
    have HX2 := hid (HX1.out.below hb)
    have HY2 := hid (HY.out.below hb)
    clear hb f0 f1 f2 f3 f4 f5 f6 f7 y0 y1 y2 y3 HB1 HX1 HY CW1 hW1 c0 c1 c2 c3 hbl
    obtain ⟨y1, y2, y3⟩ := And.intro HY2.out.c1 (And.intro HY2.out.c2 HY2.out.c3)
    cases hw : g_wordB y with
    | false =>
      have hv := HFI.out (by rw [hw]; simp)
      subst hv
      clear HFI HST CK1
      go_wp2_with fail
      go_ret
      exact ⟨rfl, HB2.out⟩
    | true =>
    rw [hw] at HFI HST
    clear hw
    go_wp2_with fail
    refine (CK1.out _).mono ?_
    rintro e w2 ⟨rfl, hb⟩
    have HB3 := hid (bb HB2.out hb)
    have HX3 := hid (HX2.out.below hb)
    have HY3 := hid (HY2.out.below hb)
    clear hb y1 y2 y3 HB2 HX2 HY2 CK1
    have y3 := HY3.out.c3
    cases hk : g_okB kn ke kd with
    | false =>
      have hv := HFI.out (by rw [hk]; simp)
      subst hv
      clear HFI HST
      go_wp2_with fail
      go_ret
      exact ⟨rfl, HB3.out⟩
    | true =>
    rw [hk] at HFI HST
    clear hk
    by_cases hd : kd = 0
    case neg =>
      have hv := HFI.out (by simp [hd])
      subst hv
      have hd' : (kd != 0) = true := by simpa using hd
      clear HFI HST
      go_wp2_with fail
      go_ret
      exact ⟨rfl, HB3.out⟩
    have hd' : (kd != 0) = false := by simpa using hd
    have HD0 := hid hd
    clear hd
    go_wp2_with fail
    clear y3 hd'
    obtain ⟨wo, hwo⟩ : ∃ wo : World, wo = w2 := ⟨w2, rfl⟩
    subst hwo
    go_loopw [5] (fun k wr => ∃ m : Nat, k = .int .i64 (m : Int) ∧ m ≤ i ∧ Hid (∀ (q : Nat) (hq : q < l.length), q < m → ¬ l[q].iss = y) ∧ Hid (Below w.heap.size w wr) ∧ Hid (GtBox wr B x (.slice (some ⟨b, o, none⟩) n ch) sk nw am (.slice aa na ca) rm (.slice ar nr cr)) ∧ Hid (HdBox wr D y kn ke kd)) (fun k _ => i - (intOf k).toNat)
    case atStart => exact ⟨0, rfl, Nat.zero_le _, fun q _ h => absurd h (Nat.not_lt_zero q), HB3.out, HX3.out, HY3.out⟩
    case round =>
      clear HB3 HX3 HY3
      obtain ⟨m, rfl, hm, HO, HB3, HX3, HY3⟩ := hrel
      by_cases hmi : m < i
      case neg =>
        have hme : m = i := by omega
        subst hme
        have HS := hid (HST.out ⟨by rw [HD0.out]; rfl, fun k hk => HO.out k (by omega) hk⟩)
        clear HFI HST HD0 HO
        go_wp2_with fail
        go_roundw
        case rel => exact ⟨m + 1, by go_num, by omega, HS.out, HB3.out, HX3.out⟩
        case measure => simp [intOf]; omega
      have hms : m < l.length := by omega
      obtain ⟨b', o', e', hbl, c0, _⟩ := HR.out.below HB3.out m hms
      injection e' with e'
      injection e' with e1 e2
      subst e1 e2
      have hmn : (m : Int) < (n : Int) := by omega
      have hmi' : (m : Int) < (i : Int) := by omega
      have HQ := hid (fun (hne : ¬ l[m].iss = y) => (show ∀ (q : Nat) (hq : q < l.length), q < m + 1 → ¬ l[q].iss = y from fun q hq hqm => by
        rcases Nat.lt_or_ge q m with h | h
        · exact HO.out q hq h
        · obtain rfl : q = m := by omega
          exact hne))
      have HNO := hid (fun (he : l[m].iss = y) => HFI.out (fun h => h.2 m hmi he))
      obtain ⟨u, hu⟩ : ∃ u, l[m].iss = u := ⟨_, rfl⟩
      rw [hu] at c0
      simp only [hu] at HQ HNO
      clear hu
      obtain ⟨f1, y0⟩ := And.intro HX3.out.c1 HY3.out.c0
      have hd := str_beq u y
      by_cases he : u = y
      case pos =>
        have hv := HNO.out he
        subst hv
        rw [decide_eq_true he] at hd
        clear HFI HST HQ HNO he HO
        go_wp2_with fail
        go_quiet (fail)
        go_wp2_with fail
        go_ret
        exact ⟨rfl, (HB3.out).grown (row := none) ⟨rfl, rfl, rfl, Nat.le_refl _, fun _ _ _ => rfl⟩ (HB3.out.size) (fun k e => by cases e)⟩
      case neg =>
        have HO2 := hid (HQ.out he)
        rw [decide_eq_false he] at hd
        clear HQ HNO he HO
        go_wp2_with fail
        go_quiet (fail)
        go_wp2_with fail
        go_roundw
        case rel => exact ⟨m + 1, by go_num, by omega, HO2.out, below_drewN HB3.out _, HX3.out.below (below_drewN (Below.refl _ _) _), HY3.out.below (below_drewN (Below.refl _ _) _)⟩
        case measure => simp [intOf]; omega

end Go.Proofs.YtnjepdggefchnaaGreatDoor

namespace Go.Proofs.YtnjepdggefchnaaGreatDoor
open Go.RowKit
set_option linter.unusedVariables false
set_option linter.unusedSimpArgs false

theorem g_wpL_app {P : Program} (w : World) {ops : Array Oper} {rest : List Oper} {o : Oper} {a : Act} {Q : Exit → Act → World → Prop} (hgd : o.guard = none) (d s : Operand) (t t' : TypeId)
    (ho : o.op = .call { callee := .builtin .append, args := #[d, s], argTypes := #[t, t'] }) (v u : Value) (hd : a.eval d = v) (hs : a.eval s = u) {v' : Value} {w' : World}
    (hr : (Builtin.append_ #[t, t'] o.type #[v, u]).run P w = .ok v' w') (h : wpList P ops Q rest (a.put o.dst v') w') : wpList P ops Q (o :: rest) a w := by
  refine wpList_plain hgd fun K hK => ?_
  unfold Oper.wp
  simp [execOp, ho, resolve, invoke, builtin, hd, hs, hr, Result.andThen]
  exact hK _ _ h

/-- Hands appended to none, as a run. -/
theorem hd_cat {a : Option Addr} {n c : Nat} {l : List Hd} {W : World} (hS : u_Sr W 4 (.slice a n c) n (hdC l)) (hn : n ≤ 1048576) :
    ∃ g' c' w8, (Builtin.append_ #[29, 29] 29 #[.slice (some ⟨W.heap.size, 0, none⟩) 0 0, .slice a n c]).run Tryz.prog (W.alloc (.cells #[] 69)) = .ok (.slice (some ⟨g', 0, none⟩) n c') w8
      ∧ w8.ownsRow W.heap.size 69 4 (.slice (some ⟨g', 0, none⟩) n c') n (hdC l) ∧ Below W.heap.size W w8 := by
  obtain ⟨i0, hi0, hz0, hz1, hz2⟩ := info_parts infoHd
  have hb := (Below.refl W.heap.size W).alloc (Nat.le_refl _) (.cells #[] 69)
  have hown := u_own_new W 69 4
  have hS2 := hS.below hb
  obtain ⟨ax, cx, e, hpos⟩ := hS2.at_
  cases e
  rcases Nat.eq_zero_or_pos n with h0 | h0
  · subst h0
    have hnews : hdC l = [] := List.eq_nil_of_length_eq_zero (by rw [hS2.len, Nat.zero_mul])
    have hsrc : Src Tryz.prog i0.size 29 (.slice a 0 c) 0 [] (W.alloc (.cells #[] 69)) := by
      cases a with
      | none => exact Src.ofNil _ Tryz.underlying29 c
      | some ad => exact Src.ofSlice _ Tryz.underlying29 ad 0 c [] (by simp) (fun j u h => by simp at h) (fun u h => by cases h)
    have hr := run_append_nothing (P := Tryz.prog) (W.alloc (.cells #[] 69)) 29 29 29 69 i0 Tryz.underlying29 hi0 (some ⟨W.heap.size, 0, none⟩) 0 0 (Nat.le_refl 0) _ hsrc
    rw [hnews]
    exact ⟨W.heap.size, 0, _, hr, hown, hb⟩
  · obtain ⟨b, o', rfl, hbl, hcs⟩ := hpos h0
    obtain ⟨v', w', hrun, r1, r2, _, r3⟩ := run_append_own_at (P := Tryz.prog) (W.alloc (.cells #[] 69)) W.heap.size 29 29 69 i0 _ 4 40 Tryz.underlying29 hi0 hz0 hz1 hz2 rfl (by decide) _ 0 [] hown ⟨b, o', none⟩ n c (hdC l) hS2.len (fun j u hj => by rw [u_add_plainW]; exact hcs j u hj) (hdC_one l) (by unfold maxLen; omega) (by omega) hb.size
    rw [Nat.zero_add, List.nil_append] at r1
    rcases r1.2 with ⟨e1, e2⟩ | ⟨g', cap', cur, e1, _⟩
    · omega
    · subst e1
      exact ⟨g', cap', w', hrun, r1, hb.grown r2 hb.size (fun k e => (hown.lt k e).1)⟩

set_option maxRecDepth 8000 in
set_option maxHeartbeats 8000000 in
theorem cGateCopyS (g : Gt) (ah : Option Addr) (ch : Nat) (aa : Option Addr) (ca : Nat) (ar : Option Addr) (cr : Nat) (w : World) (hR : GtRow w g ah aa ar) (hn1 : g.hands.length ≤ 100000) (hn2 : g.ask.rows.length ≤ 100000) (hn3 : g.hrd.rows.length ≤ 100000) :
    Calls Tryz.prog 16 #[gtV g ah ch aa ca ar cr] w fun e w' => ∃ ah' ch' aa' ca' ar' cr', e = .returned (gtV g ah' ch' aa' ca' ar' cr') ∧ GtOwn w' w.heap.size g ah' aa' ar' ∧ Below w.heap.size w w' := by
  have CA := hid (fun wx (h : Below w.heap.size w wx) => cCopyS g.ask aa ca wx (hR.2.1.below h) hn2)
  have CR := hid (fun wx (h : Below w.heap.size w wx) => cCopyS g.hrd ar cr wx (hR.2.2.below h) hn3)
  have CC := hid (fun wx (h : Below w.heap.size w wx) => hd_cat ((hR.1.below h).sr (n := g.hands.length) (c := ch) rfl) (Nat.le_trans hn1 (by decide)))
  have HFIN := hid (fun (w1 w2 w3 wz : World) (B1 B2 B3 : Nat) (a1 a2 a3 : Nat) (c1 c2 c3 : Nat) (h1 : w1.ownsRow B1 69 4 (.slice (some ⟨a1, 0, none⟩) g.hands.length c1) g.hands.length (hdC g.hands)) (k1 : ∀ b, B1 ≤ b → b < w1.heap.size → wz.heap[b]? = w1.heap[b]?) (h2 : w2.ownsRow B2 78 2 (.slice (some ⟨a2, 0, none⟩) g.ask.rows.length c2) g.ask.rows.length (roC g.ask.rows)) (k2 : ∀ b, B2 ≤ b → b < w2.heap.size → wz.heap[b]? = w2.heap[b]?) (hB : w2.heap.size ≤ B3) (h3 : w3.ownsRow B3 78 2 (.slice (some ⟨a3, 0, none⟩) g.hrd.rows.length c3) g.hrd.rows.length (roC g.hrd.rows)) (k3 : ∀ b, B3 ≤ b → b < w3.heap.size → wz.heap[b]? = w3.heap[b]?) (Bx : Nat) (q1 : Bx ≤ B1) (q2 : Bx ≤ B2) (q3 : Bx ≤ B3) => (show GtOwn wz Bx g (some ⟨a1, 0, none⟩) (some ⟨a2, 0, none⟩) (some ⟨a3, 0, none⟩) from by
    obtain ⟨a, c, e, o1⟩ := own_hd h1 rfl
    cases e
    obtain ⟨a, c, e, o2⟩ := own_ro h2 rfl
    cases e
    obtain ⟨a, c, e, o3⟩ := own_ro h3 rfl
    cases e
    refine ⟨fun hl => ?_, fun hl => ?_, fun hl => ?_, apart_of o2 hB o3⟩
    · obtain ⟨y, o, cu, e1, e2, e3, e4⟩ := o1 hl
      exact ⟨y, o, cu, e1, Nat.le_trans q1 e2, (k1 y e2 (lt_of_heap e3)).trans e3, e4⟩
    · obtain ⟨y, o, cu, e1, e2, e3, e4⟩ := o2 hl
      exact ⟨y, o, cu, e1, Nat.le_trans q2 e2, (k2 y e2 (lt_of_heap e3)).trans e3, e4⟩
    · obtain ⟨y, o, cu, e1, e2, e3, e4⟩ := o3 hl
      exact ⟨y, o, cu, e1, Nat.le_trans q3 e2, (k3 y e2 (lt_of_heap e3)).trans e3, e4⟩))
  unfold RoOwn at CA CR
  unfold gtV
  unfold tbV at CA CR
  clear hR hn1 hn2 hn3
  generalize g.name = x at *
  generalize g.skew = sk at *
  generalize g.now = nw at *
  generalize g.ask.most = am at *
  generalize g.hrd.most = rm at *
  generalize g.hands.length = nh at *
  generalize g.ask.rows.length = na at *
  generalize g.hrd.rows.length = nr at *
  obtain ⟨b1, b2, b3⟩ := u_heap3 w (.cells #[.string x, .slice ah nh ch, .int .i64 sk, .int .i64 nw, .int .i64 am, .slice aa na ca, .int .i64 rm, .slice ar nr cr] 34) (.cells #[.string ⟨#[]⟩, .slice none 0 0, .int .i64 0, .int .i64 0, .int .i64 0, .slice none 0 0, .int .i64 0, .slice none 0 0] 34) (.cells #[.string x, .slice ah nh ch, .int .i64 sk, .int .i64 nw, .int .i64 am, .slice aa na ca, .int .i64 rm, .slice ar nr cr] 34)
  have HB0 := hid ((((Below.refl w.heap.size w).alloc (Nat.le_refl _) (.cells #[.string x, .slice ah nh ch, .int .i64 sk, .int .i64 nw, .int .i64 am, .slice aa na ca, .int .i64 rm, .slice ar nr cr] 34)).alloc (by simp) (.cells #[.string ⟨#[]⟩, .slice none 0 0, .int .i64 0, .int .i64 0, .int .i64 0, .slice none 0 0, .int .i64 0, .slice none 0 0] 34)).alloc (by simp; omega) (.cells #[.string x, .slice ah nh ch, .int .i64 sk, .int .i64 nw, .int .i64 am, .slice aa na ca, .int .i64 rm, .slice ar nr cr] 34))
  have HSZ := hid (show (((w.alloc (.cells #[.string x, .slice ah nh ch, .int .i64 sk, .int .i64 nw, .int .i64 am, .slice aa na ca, .int .i64 rm, .slice ar nr cr] 34)).alloc (.cells #[.string ⟨#[]⟩, .slice none 0 0, .int .i64 0, .int .i64 0, .int .i64 0, .slice none 0 0, .int .i64 0, .slice none 0 0] 34)).alloc (.cells #[.string x, .slice ah nh ch, .int .i64 sk, .int .i64 nw, .int .i64 am, .slice aa na ca, .int .i64 rm, .slice ar nr cr] 34)).heap.size = w.heap.size + 3 by simp)
  obtain ⟨W0, hW0⟩ : ∃ W0, ((w.alloc (.cells #[.string x, .slice ah nh ch, .int .i64 sk, .int .i64 nw, .int .i64 am, .slice aa na ca, .int .i64 rm, .slice ar nr cr] 34)).alloc (.cells #[.string ⟨#[]⟩, .slice none 0 0, .int .i64 0, .int .i64 0, .int .i64 0, .slice none 0 0, .int .i64 0, .slice none 0 0] 34)).alloc (.cells #[.string x, .slice ah nh ch, .int .i64 sk, .int .i64 nw, .int .i64 am, .slice aa na ca, .int .i64 rm, .slice ar nr cr] 34) = W0 := ⟨_, rfl⟩
  rw [hW0] at b1 b2 b3 HB0 HSZ
  obtain ⟨B, hB⟩ : ∃ B, w.heap.size = B := ⟨_, rfl⟩
  have HBB := hid hB
  rw [hB] at b1 b2 b3 HSZ
  have H1 := hid b1
  have H2 := hid b2
  have H3 := hid b3
  have HW0 := hid hW0
  clear b1 b2 b3 hW0
  obtain ⟨g1, c1, w1, hrun, ho1, hb1⟩ := CC.out W0 HB0.out
  have HRUN := hid hrun
  have HO1 := hid ho1
  have HA1 := hid (bb HB0.out hb1)
  have K1 := hid (u_blk_below H1.out hb1)
  have K2 := hid (u_blk_below H2.out hb1)
  have K3 := hid (u_blk_below H3.out hb1)
  have HS1 := hid hb1.size
  clear hrun ho1 hb1 CC
  go_enter Tryz.func16, Tryz.ntmps16
  go_upto_region 2 with fail
  rw [HW0.out]
  clear HW0
  obtain ⟨⟨x0, x1, x2, x3, x4, x5, x6, x7⟩, _⟩ := g_box8f (u_blk_below H1.out ((Below.refl W0.heap.size W0).alloc (Nat.le_refl _) (.cells #[] 69)))
  obtain ⟨⟨z0, z1, z2, z3, z4, z5, z6, z7⟩, zf⟩ := g_box8f K3.out
  have zf1 := zf 1
  clear zf
  have HLB := hid (show B + 2 < W0.heap.size from lt_of_heap H3.out)
  have HC1 := hid (HA1.out.setCell (p := ⟨B + 2, 1, none⟩) (by rw [hB]; (try dsimp only); omega) (.slice (some ⟨g1, 0, none⟩) nh c1))
  have D1 := hid ((Below.heap_setCell w1 ⟨B + 2, 1, none⟩ (.slice (some ⟨g1, 0, none⟩) nh c1) B (by (try dsimp only); omega)).trans K1.out)
  have D2 := hid ((Below.heap_setCell w1 ⟨B + 2, 1, none⟩ (.slice (some ⟨g1, 0, none⟩) nh c1) (B + 1) (by (try dsimp only); omega)).trans K2.out)
  have D3 := hid (show (w1.setCell ⟨B + 2, 1, none⟩ (.slice (some ⟨g1, 0, none⟩) nh c1)).heap[B + 2]? = some (.cells #[.string x, .slice (some ⟨g1, 0, none⟩) nh c1, .int .i64 sk, .int .i64 nw, .int .i64 am, .slice aa na ca, .int .i64 rm, .slice ar nr cr] 34 (0, 0)) from (u_heap_set K3.out _).trans rfl)
  have DO1 := hid (fun b (h : W0.heap.size ≤ b) => Below.heap_setCell w1 ⟨B + 2, 1, none⟩ (.slice (some ⟨g1, 0, none⟩) nh c1) b (by (try dsimp only); have := HLB.out; omega))
  have DS1 := hid (show (w1.setCell ⟨B + 2, 1, none⟩ (.slice (some ⟨g1, 0, none⟩) nh c1)).heap.size = w1.heap.size by simp)
  obtain ⟨⟨p0, p1, p2, p3, p4, p5, p6, p7⟩, _⟩ := g_box8f D1.out
  obtain ⟨W1, hW1⟩ : ∃ W, w1.setCell ⟨B + 2, 1, none⟩ (.slice (some ⟨g1, 0, none⟩) nh c1) = W := ⟨_, rfl⟩
  rw [hW1] at HC1 D1 D2 D3 DO1 DS1 p0 p1 p2 p3 p4 p5 p6 p7
  go_wp2_with (at_builtin; refine g_wpL_app _ rfl (.tmp 5) (.tmp 7) 29 29 rfl (.slice (some ⟨W0.heap.size, 0, none⟩) 0 0) (.slice ah nh ch) rfl rfl HRUN.out ?_)
  clear x0 x1 x2 x3 x4 x5 x6 x7 z0 z1 z2 z3 z4 z5 z6 z7 zf1 p0 p1 p2 p3 p4 p5 p6 p7 hW1 HRUN
  refine (CA.out _ HC1.out).mono ?_
  rintro e w2 ⟨g2, c2, rfl, ho2, hb2⟩
  have HO2 := hid ho2
  have HA2 := hid (bb HC1.out hb2)
  have E1 := hid (u_blk_below D1.out hb2)
  have E2 := hid (u_blk_below D2.out hb2)
  have E3 := hid (u_blk_below D3.out hb2)
  have HS2 := hid hb2.size
  have KO1 := hid (fun b (h : W0.heap.size ≤ b) (h2 : b < w1.heap.size) => (hb2.block b (by rw [DS1.out]; exact h2)).trans (DO1.out b h))
  have HLW1 := hid (show W0.heap.size ≤ W1.heap.size by rw [DS1.out]; exact HS1.out)
  clear ho2 hb2 HC1 D1 D2 D3 DO1 K1 K2 K3 HA1 CA
  obtain ⟨⟨x0, x1, x2, x3, x4, x5, x6, x7⟩, _⟩ := g_box8f E1.out
  obtain ⟨⟨z0, z1, z2, z3, z4, z5, z6, z7⟩, zf⟩ := g_box8f E3.out
  have zf4 := zf 4
  have zf5 := zf 5
  clear zf
  have HC2 := hid (show Below w.heap.size w ((w2.setCell ⟨B + 2, 4, none⟩ (.int .i64 am)).setCell ⟨B + 2, 5, none⟩ (.slice (some ⟨g2, 0, none⟩) na c2)) from by
    iterate 2 refine Below.setCell ?_ (by rw [hB]; (try dsimp only); omega) _
    exact HA2.out)
  have other2 : ∀ b, ¬ b = B + 2 → ((w2.setCell ⟨B + 2, 4, none⟩ (.int .i64 am)).setCell ⟨B + 2, 5, none⟩ (.slice (some ⟨g2, 0, none⟩) na c2)).heap[b]? = w2.heap[b]? := fun b hne => by
    iterate 2 refine (Below.heap_setCell _ _ _ _ (by (try dsimp only); omega)).trans ?_
    rfl
  have D1 := hid ((other2 B (by omega)).trans E1.out)
  have D2 := hid ((other2 (B + 1) (by omega)).trans E2.out)
  have D3 := hid (show ((w2.setCell ⟨B + 2, 4, none⟩ (.int .i64 am)).setCell ⟨B + 2, 5, none⟩ (.slice (some ⟨g2, 0, none⟩) na c2)).heap[B + 2]? = some (.cells #[.string x, .slice (some ⟨g1, 0, none⟩) nh c1, .int .i64 sk, .int .i64 nw, .int .i64 am, .slice (some ⟨g2, 0, none⟩) na c2, .int .i64 rm, .slice ar nr cr] 34 (0, 0)) from (u_heap_set (u_heap_set E3.out _) _).trans rfl)
  have DO2 := hid (fun b (h : W0.heap.size ≤ b) => other2 b (by have := HLB.out; omega))
  have DS2 := hid (show ((w2.setCell ⟨B + 2, 4, none⟩ (.int .i64 am)).setCell ⟨B + 2, 5, none⟩ (.slice (some ⟨g2, 0, none⟩) na c2)).heap.size = w2.heap.size by simp)
  clear other2
  obtain ⟨⟨p0, p1, p2, p3, p4, p5, p6, p7⟩, _⟩ := g_box8f D1.out
  obtain ⟨W2, hW2⟩ : ∃ W, ((w2.setCell ⟨B + 2, 4, none⟩ (.int .i64 am)).setCell ⟨B + 2, 5, none⟩ (.slice (some ⟨g2, 0, none⟩) na c2)) = W := ⟨_, rfl⟩
  rw [hW2] at HC2 D1 D2 D3 DO2 DS2 p0 p1 p2 p3 p4 p5 p6 p7
  go_wp2_with fail
  clear x0 x1 x2 x3 x4 x5 x6 x7 z0 z1 z2 z3 z4 z5 z6 z7 zf4 zf5 p0 p1 p2 p3 p4 p5 p6 p7 hW2
  refine (CR.out _ HC2.out).mono ?_
  rintro e w3 ⟨g3, c3, rfl, ho3, hb3⟩
  have HO3 := hid ho3
  have HA3 := hid (bb HC2.out hb3)
  have E2 := hid (u_blk_below D2.out hb3)
  have E3 := hid (u_blk_below D3.out hb3)
  have HW23 := hid (show w2.heap.size ≤ W2.heap.size by rw [DS2.out]; exact Nat.le_refl _)
  have HL3 := hid (show W0.heap.size ≤ W2.heap.size by rw [DS2.out]; exact Nat.le_trans HLW1.out HS2.out)
  have KO2 := hid (fun b (h : W0.heap.size ≤ b) (h2 : b < w2.heap.size) => (hb3.block b (by rw [DS2.out]; exact h2)).trans (DO2.out b h))
  have KO12 := hid (fun b (h : W0.heap.size ≤ b) (h2 : b < w1.heap.size) => (KO2.out b h (Nat.lt_of_lt_of_le h2 (by have := HS2.out; rw [DS1.out] at this; exact this))).trans (KO1.out b h h2))
  clear ho3 hb3 HC2 D1 D2 D3 DO2 HA2 CR E1
  obtain ⟨⟨y0, y1, y2, y3, y4, y5, y6, y7⟩, yf⟩ := g_box8f E2.out
  obtain ⟨⟨z0, z1, z2, z3, z4, z5, z6, z7⟩, zf⟩ := g_box8f E3.out
  have zf6 := zf 6
  have zf7 := zf 7
  have yf0 := yf 0
  have yf1 := yf 1
  have yf2 := yf 2
  have yf3 := yf 3
  have yf4 := yf 4
  have yf5 := yf 5
  have yf6 := yf 6
  have yf7 := yf 7
  clear zf yf
  go_wp2_with fail
  refine bodyPost_ret (v := .agg #[.string x, .slice (some ⟨g1, 0, none⟩) nh c1, .int .i64 sk, .int .i64 nw, .int .i64 am, .slice (some ⟨g2, 0, none⟩) na c2, .int .i64 rm, .slice (some ⟨g3, 0, none⟩) nr c3]) (by simp [results, Tryz.results16, go_sem, y0, y1, y2, y3, y4, y5, y6, y7, z0, z1, z2, z3, z4, z5, z6, z7]) rfl ⟨_, _, _, _, _, _, rfl, ?_, ?_⟩
  · refine HFIN.out w1 w2 w3 _ W0.heap.size W1.heap.size W2.heap.size g1 g2 g3 c1 c2 c3 HO1.out (fun b h1 h2 => ?_) HO2.out (fun b h1 h2 => ?_) HW23.out HO3.out (fun b h1 h2 => ?_) w.heap.size (Nat.le_trans (by rw [hB]; have := HLB.out; omega) (Nat.le_refl _)) ?_ ?_
    · iterate 10 refine (Below.heap_setCell _ _ _ _ (by (try dsimp only); have := HLB.out; omega)).trans ?_
      exact KO12.out b h1 h2
    · iterate 10 refine (Below.heap_setCell _ _ _ _ (by (try dsimp only); have := HLB.out; have := HLW1.out; omega)).trans ?_
      exact KO2.out b (Nat.le_trans HLW1.out h1) h2
    · iterate 10 refine (Below.heap_setCell _ _ _ _ (by (try dsimp only); have := HLB.out; have := HL3.out; omega)).trans ?_
      rfl
    · rw [hB]; have := HLB.out; have := HLW1.out; omega
    · rw [hB]; have := HLB.out; have := HL3.out; omega
  · iterate 10 refine Below.setCell ?_ (by rw [hB]; (try dsimp only); omega) _
    exact HA3.out

end Go.Proofs.YtnjepdggefchnaaGreatDoor
