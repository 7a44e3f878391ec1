/- Contracts of NewTable, of the program and of the specification. The program's NewGate. The contract of the specification's GateOk. -/
import Derived.Test.YtgdfeicojgnoaaaGreatDoorM11
import Derived.Test.YtgdfeicojgnoaaaGreatDoorM6
import Derived.Deep.CutRange
import Derived.Deep.QuietTactic
import Derived.BigQuiet
namespace Go.Proofs.YtgdfeicojgnoaaaGreatDoor
open Go.RowKit
set_option linter.unusedVariables false
set_option linter.unusedSimpArgs false

theorem newT_t {m : Int} (h : mostB m = true) : newT m = (⟨m, []⟩, true) := if_pos h
theorem newT_f {m : Int} (h : mostB m = false) : newT m = (zeroT, false) := if_neg (by rw [h]; exact Bool.false_ne_true)

theorem newT_rows (m : Int) : (newT m).1.rows = [] := by
  cases h : mostB m with
  | true => rw [newT_t h]
  | false => rw [newT_f h]; rfl

set_option maxHeartbeats 2000000 in
theorem cNewTableS (m : Int) (w : World) :
    Calls Tryz.prog 96 #[.int .i64 m] w fun e w' => e = .returned (.tuple #[tbV (newT m).1 none 0, .bool (newT m).2]) ∧ Below w.heap.size w w' := by
  have C := hid (fun wx => cIn m 1 20 wx)
  have hM : decide (1 ≤ m ∧ m ≤ 20) = mostB m := rfl
  rw [hM] at C
  clear hM
  have M := hid (heap_alloc_new w (.cells #[.int .i64 0, .slice none 0 0] 27))
  have HB := hid ((Below.refl w.heap.size w).alloc (Nat.le_refl _) (.cells #[.int .i64 0, .slice none 0 0] 27))
  cases h : mostB m with
  | true =>
    rw [newT_t h]
    rw [h] at C
    clear h
    simp only [tbV, List.length_nil]
    obtain ⟨⟨z0, z1⟩, zf0, zf1⟩ := u_box2f M.out
    go_enter Tryz.func96, Tryz.ntmps96
    go_wp2_with fail
    refine (C.out _).mono ?_
    rintro e w1 ⟨rfl, rfl⟩
    go_wp2_with fail
    refine bodyPost_ret (v := .tuple #[.agg #[.int .i64 m, .slice none 0 0], .bool true]) (by simp [results, Tryz.results96, go_sem, z0, z1]) rfl ⟨rfl, ?_⟩
    repeat first | exact HB.out | exact (Below.refl _ _).alloc (Nat.le_refl _) _ | refine Below.setCell ?_ (by simp; try omega) _
  | false =>
    rw [newT_f h]
    rw [h] at C
    clear h
    simp only [tbV, zeroT, List.length_nil]
    obtain ⟨⟨z0, z1⟩, zf0, zf1⟩ := u_box2f M.out
    go_enter Tryz.func96, Tryz.ntmps96
    go_wp2_with fail
    refine (C.out _).mono ?_
    rintro e w1 ⟨rfl, rfl⟩
    go_wp2_with fail
    refine bodyPost_ret (v := .tuple #[.agg #[.int .i64 0, .slice none 0 0], .bool false]) (by simp [results, Tryz.results96, go_sem, z0, z1]) rfl ⟨rfl, ?_⟩
    repeat first | exact HB.out | exact (Below.refl _ _).alloc (Nat.le_refl _) _ | refine Below.setCell ?_ (by simp; try omega) _

end Go.Proofs.YtgdfeicojgnoaaaGreatDoor

namespace Go.Proofs.YtgdfeicojgnoaaaGreatDoor
open Go.RowKit
set_option linter.unusedVariables false
set_option linter.unusedSimpArgs false

/-- The gate that is asked for. -/
def askG (x : ByteArray) (l : List Hd) (sk most : Int) : Gt := ⟨x, l, sk, 0, ⟨most, []⟩, ⟨most, []⟩⟩

noncomputable def newG (x : ByteArray) (l : List Hd) (sk most : Int) : Gt × Bool := if gateB (askG x l sk most) = true then (askG x l sk most, true) else (zeroG, false)

theorem tableB_none (m : Int) (h : mostB m = false) : tableB ⟨m, []⟩ = false := by
  unfold tableB
  rw [h]
  rfl

theorem askG_new (x : ByteArray) (l : List Hd) (sk most : Int) : gateB ⟨x, l, sk, 0, (newT most).1, (newT most).1⟩ = gateB (askG x l sk most) ∧ (gateB (askG x l sk most) = true → (newT most).1 = ⟨most, []⟩) := by
  cases h : mostB most with
  | true =>
    rw [newT_t h]
    exact ⟨rfl, fun _ => rfl⟩
  | false =>
    rw [newT_f h]
    have h1 : tableB ⟨most, []⟩ = false := tableB_none most h
    have h2 : tableB zeroT = false := tableB_none 0 (by decide)
    have e1 : gateB (askG x l sk most) = false := by
      unfold gateB askG
      simp only
      rw [h1]
      simp
    have e2 : gateB ⟨x, l, sk, 0, zeroT, zeroT⟩ = false := by
      unfold gateB
      simp only
      rw [h2]
      simp
    exact ⟨e2.trans e1.symm, fun h => by rw [e1] at h; cases h⟩

theorem gateB_hands {g : Gt} (h : gateB g = true) : g.hands.length ≤ 4 := by
  unfold gateB at h
  rw [Bool.and_eq_true, Bool.and_eq_true] at h
  exact (handsB_p h.2.1).1

end Go.Proofs.YtgdfeicojgnoaaaGreatDoor

namespace Go.Proofs.YtgdfeicojgnoaaaGreatDoor
open Go.RowKit
set_option linter.unusedVariables false
set_option linter.unusedSimpArgs false

set_option maxRecDepth 8000 in
set_option maxHeartbeats 16000000 in
theorem cGateOkS (g : Gt) (ah : Option Addr) (ch : Nat) (aa : Option Addr) (ca : Nat) (ar : Option Addr) (cr : Nat) (w : World) (hR : GtRow w g ah aa ar) (hz : GtSz 1048576 g) :
    Calls Tryz.prog 15 #[gtV g ah ch aa ca ar cr] w fun e w' => e = .returned (.bool (gateB g)) ∧ Below w.heap.size w w' := by
  obtain ⟨z1, z2, z3, z4, z5, z6, z7⟩ := hz
  have CW := hid (fun wx => g_c_spec_l14Word g.name wx z1)
  have CS := hid (fun wx => g_cSkewS g.skew wx)
  have CT := hid (fun wx => cTimeS g.now wx)
  have CA := hid (fun wx (h : Below w.heap.size w wx) => cTableOkS g.ask aa ca wx (hR.2.1.below h) z4 z5)
  have CR := hid (fun wx (h : Below w.heap.size w wx) => cTableOkS g.hrd ar cr wx (hR.2.2.below h) z6 z7)
  have hM : decide (0 ≤ g.now ∧ g.now ≤ 3155759999) = utmB g.now := rfl
  rw [hM] at CT
  have HR := hid hR.1
  have HZ := hid z2
  have hn : g.hands.length ≤ 1048576 := z3
  clear hM hR z1 z2 z3 z4 z5 z6 z7
  have HX0 := hid (GtBox.new w g.name (.slice ah g.hands.length ch) g.skew g.now g.ask.most (.slice aa g.ask.rows.length ca) g.hrd.most (.slice ar g.hrd.rows.length cr) 29)
  have HB0 := hid ((Below.refl w.heap.size w).alloc (Nat.le_refl _) (.cells #[.string g.name, .slice ah g.hands.length ch, .int .i64 g.skew, .int .i64 g.now, .int .i64 g.ask.most, .slice aa g.ask.rows.length ca, .int .i64 g.hrd.most, .slice ar g.hrd.rows.length cr] 29))
  unfold gtV gateB
  unfold tbV at CA CR
  generalize g_wordB g.name = b1 at *
  generalize g_skB g.skew = b3 at *
  generalize utmB g.now = b4 at *
  generalize tableB g.ask = b5 at *
  generalize tableB g.hrd = b6 at *
  generalize g.name = x at *
  generalize g.skew = sk at *
  generalize g.now = nw at *
  generalize g.ask.most = am at *
  generalize g.ask.rows.length = na at *
  generalize g.hrd.most = rm at *
  generalize g.hrd.rows.length = nr at *
  generalize g.hands = l at *
  have HT4 := hid (fun h => handsB_t (l := l) h)
  have HF4 := hid (fun h => handsB_4 (l := l) h)
  have HFF := hid (fun (i : Nat) (hi : i < l.length) h => handsB_f (l := l) hi h)
  obtain ⟨b2, hV⟩ : ∃ V, handsB l = V := ⟨_, rfl⟩
  rw [hV] at HT4 HF4 ⊢
  simp only [hV] at HFF
  clear hV
  obtain ⟨n, hnn⟩ : ∃ n, l.length = n := ⟨_, rfl⟩
  have HN := hid hnn
  rw [hnn] at hn HX0 HB0 HT4 HF4 ⊢
  clear hnn
  obtain ⟨W0, hW0⟩ : ∃ W0, w.alloc (.cells #[.string x, .slice ah n ch, .int .i64 sk, .int .i64 nw, .int .i64 am, .slice aa na ca, .int .i64 rm, .slice ar nr cr] 29) = W0 := ⟨_, rfl⟩
  rw [hW0] at HX0 HB0
  obtain ⟨B, hB⟩ : ∃ B, w.heap.size = B := ⟨_, rfl⟩
  rw [hB] at HX0
  have HFIN := hid (show b2 = false → (b1 && (b2 && (b3 && (b4 && (b5 && b6))))) = false from fun h => by rw [h]; simp)
  have HGO := hid (show (b1 && (b2 && (b3 && (b4 && (b5 && b6))))) = (b1 && (b2 && (b3 && (b4 && (b5 && b6))))) from rfl)
  obtain ⟨V, hV⟩ : ∃ V, (b1 && (b2 && (b3 && (b4 && (b5 && b6))))) = V := ⟨_, rfl⟩
  have HV := hid hV
  rw [hV] at HFIN ⊢
  clear hV HGO
  go_enter Tryz.func15, Tryz.ntmps15
  go_wp2_with fail
  clear hW0
  go_loopw [3] (fun k wr => ∃ i : Nat, k = .int .i64 (i : Int) ∧ i ≤ n ∧ Hid (HandsP l i) ∧ Hid (Below w.heap.size w wr) ∧ Hid (GtBox wr B x (.slice ah n ch) sk nw am (.slice aa na ca) rm (.slice ar nr cr))) (fun k _ => n - (intOf k).toNat)
  case atStart => exact ⟨0, rfl, Nat.zero_le _, HandsP.zero _, HB0.out, HX0.out⟩
  case round =>
    clear HX0 HB0
    obtain ⟨i, rfl, hi, HP, HB0, HX0⟩ := hrel
    by_cases hlt : i < n
    case neg =>
      have hie : i = n := by omega
      subst hie
      have HT := hid (fun h => HT4.out h HP.out)
      clear HP HFF HT4 HR HZ
      by_cases h4 : i ≤ 4
      case neg =>
        have hv := HFIN.out (HF4.out h4)
        subst hv
        have h4' : ¬ (i : Int) ≤ 4 := by omega
        clear HF4 HFIN HT HV
        obtain ⟨f0, f1, f2, f3, f4, f5, f6, f7⟩ := HX0.out.cells
        go_wp2_with fail
        go_ret
        exact ⟨rfl, by first | exact HB0.out | (rw [← hB]; exact HB0.out)⟩
      have h4' : (i : Int) ≤ 4 := by omega
      have hv := HV.out
      rw [HT.out h4] at hv
      clear HF4 HFIN HT HV h4
      simp only [Bool.true_and] at hv
      subst hv
      cases b1 with
      | false =>
        obtain ⟨f0, f1, f2, f3, f4, f5, f6, f7⟩ := HX0.out.cells
        go_wp2_with fail
        refine (CW.out _).mono ?_
        rintro e w1 ⟨rfl, hb⟩
        have HB1 := hid (bb HB0.out hb)
        have HX1 := hid (HX0.out.below hb)
        clear hb f0 f1 f2 f3 f4 f5 f6 f7
        go_wp2_with fail
        go_ret
        exact ⟨rfl, HB1.out⟩
      | true =>
      cases b3 with
      | false =>
        obtain ⟨f0, f1, f2, f3, f4, f5, f6, f7⟩ := HX0.out.cells
        go_wp2_with fail
        refine (CW.out _).mono ?_
        rintro e w1 ⟨rfl, hb⟩
        have HB1 := hid (bb HB0.out hb)
        have HX1 := hid (HX0.out.below hb)
        clear hb f0 f1 f2 f3 f4 f5 f6 f7
        obtain ⟨f0, f1, f2, f3, f4, f5, f6, f7⟩ := HX1.out.cells
        go_wp2_with fail
        refine (CS.out _).mono ?_
        rintro e w2 ⟨rfl, rfl⟩
        have HB2 := HB1
        have HX2 := HX1
        clear f0 f1 f2 f3 f4 f5 f6 f7
        go_wp2_with fail
        go_ret
        exact ⟨rfl, HB2.out⟩
      | true =>
      cases b4 with
      | false =>
        obtain ⟨f0, f1, f2, f3, f4, f5, f6, f7⟩ := HX0.out.cells
        go_wp2_with fail
        refine (CW.out _).mono ?_
        rintro e w1 ⟨rfl, hb⟩
        have HB1 := hid (bb HB0.out hb)
        have HX1 := hid (HX0.out.below hb)
        clear hb f0 f1 f2 f3 f4 f5 f6 f7
        obtain ⟨f0, f1, f2, f3, f4, f5, f6, f7⟩ := HX1.out.cells
        go_wp2_with fail
        refine (CS.out _).mono ?_
        rintro e w2 ⟨rfl, rfl⟩
        have HB2 := HB1
        have HX2 := HX1
        clear f0 f1 f2 f3 f4 f5 f6 f7
        obtain ⟨f0, f1, f2, f3, f4, f5, f6, f7⟩ := HX2.out.cells
        go_wp2_with fail
        refine (CT.out _).mono ?_
        rintro e w3 ⟨rfl, rfl⟩
        have HB3 := HB2
        have HX3 := HX2
        clear f0 f1 f2 f3 f4 f5 f6 f7
        go_wp2_with fail
        go_ret
        exact ⟨rfl, HB3.out⟩
      | true =>
      cases b5 with
      | false =>
        obtain ⟨f0, f1, f2, f3, f4, f5, f6, f7⟩ := HX0.out.cells
        go_wp2_with fail
        refine (CW.out _).mono ?_
        rintro e w1 ⟨rfl, hb⟩
        have HB1 := hid (bb HB0.out hb)
        have HX1 := hid (HX0.out.below hb)
        clear hb f0 f1 f2 f3 f4 f5 f6 f7
        obtain ⟨f0, f1, f2, f3, f4, f5, f6, f7⟩ := HX1.out.cells
        go_wp2_with fail
        refine (CS.out _).mono ?_
        rintro e w2 ⟨rfl, rfl⟩
        have HB2 := HB1
        have HX2 := HX1
        clear f0 f1 f2 f3 f4 f5 f6 f7
        obtain ⟨f0, f1, f2, f3, f4, f5, f6, f7⟩ := HX2.out.cells
        go_wp2_with fail
        refine (CT.out _).mono ?_
        rintro e w3 ⟨rfl, rfl⟩
        have HB3 := HB2
        have HX3 := HX2
        clear f0 f1 f2 f3 f4 f5 f6 f7
        obtain ⟨f0, f1, f2, f3, f4, f5, f6, f7⟩ := HX3.out.cells
        go_wp2_with fail
        refine (CA.out _ HB3.out).mono ?_
        rintro e w4 ⟨rfl, hb⟩
        have HB4 := hid (bb HB3.out hb)
        have HX4 := hid (HX3.out.below hb)
        clear hb f0 f1 f2 f3 f4 f5 f6 f7
        go_wp2_with fail
        go_ret
        exact ⟨rfl, HB4.out⟩
      | true =>
      cases b6 with
      | false =>
        obtain ⟨f0, f1, f2, f3, f4, f5, f6, f7⟩ := HX0.out.cells
        go_wp2_with fail
        refine (CW.out _).mono ?_
        rintro e w1 ⟨rfl, hb⟩
        have HB1 := hid (bb HB0.out hb)
        have HX1 := hid (HX0.out.below hb)
        clear hb f0 f1 f2 f3 f4 f5 f6 f7
        obtain ⟨f0, f1, f2, f3, f4, f5, f6, f7⟩ := HX1.out.cells
        go_wp2_with fail
        refine (CS.out _).mono ?_
        rintro e w2 ⟨rfl, rfl⟩
        have HB2 := HB1
        have HX2 := HX1
        clear f0 f1 f2 f3 f4 f5 f6 f7
        obtain ⟨f0, f1, f2, f3, f4, f5, f6, f7⟩ := HX2.out.cells
        go_wp2_with fail
        refine (CT.out _).mono ?_
        rintro e w3 ⟨rfl, rfl⟩
        have HB3 := HB2
        have HX3 := HX2
        clear f0 f1 f2 f3 f4 f5 f6 f7
        obtain ⟨f0, f1, f2, f3, f4, f5, f6, f7⟩ := HX3.out.cells
        go_wp2_with fail
        refine (CA.out _ HB3.out).mono ?_
        rintro e w4 ⟨rfl, hb⟩
        have HB4 := hid (bb HB3.out hb)
        have HX4 := hid (HX3.out.below hb)
        clear hb f0 f1 f2 f3 f4 f5 f6 f7
        obtain ⟨f0, f1, f2, f3, f4, f5, f6, f7⟩ := HX4.out.cells
        go_wp2_with fail
        refine (CR.out _ HB4.out).mono ?_
        rintro e w5 ⟨rfl, hb⟩
        have HB5 := hid (bb HB4.out hb)
        have HX5 := hid (HX4.out.below hb)
        clear hb f0 f1 f2 f3 f4 f5 f6 f7
        go_wp2_with fail
        go_ret
        exact ⟨rfl, HB5.out⟩
      | true =>
      obtain ⟨f0, f1, f2, f3, f4, f5, f6, f7⟩ := HX0.out.cells
      go_wp2_with fail
      refine (CW.out _).mono ?_
      rintro e w1 ⟨rfl, hb⟩
      have HB1 := hid (bb HB0.out hb)
      have HX1 := hid (HX0.out.below hb)
      clear hb f0 f1 f2 f3 f4 f5 f6 f7
      obtain ⟨f0, f1, f2, f3, f4, f5, f6, f7⟩ := HX1.out.cells
      go_wp2_with fail
      refine (CS.out _).mono ?_
      rintro e w2 ⟨rfl, rfl⟩
      have HB2 := HB1
      have HX2 := HX1
      clear f0 f1 f2 f3 f4 f5 f6 f7
      obtain ⟨f0, f1, f2, f3, f4, f5, f6, f7⟩ := HX2.out.cells
      go_wp2_with fail
      refine (CT.out _).mono ?_
      rintro e w3 ⟨rfl, rfl⟩
      have HB3 := HB2
      have HX3 := HX2
      clear f0 f1 f2 f3 f4 f5 f6 f7
      obtain ⟨f0, f1, f2, f3, f4, f5, f6, f7⟩ := HX3.out.cells
      go_wp2_with fail
      refine (CA.out _ HB3.out).mono ?_
      rintro e w4 ⟨rfl, hb⟩
      have HB4 := hid (bb HB3.out hb)
      have HX4 := hid (HX3.out.below hb)
      clear hb f0 f1 f2 f3 f4 f5 f6 f7
      obtain ⟨f0, f1, f2, f3, f4, f5, f6, f7⟩ := HX4.out.cells
      go_wp2_with fail
      refine (CR.out _ HB4.out).mono ?_
      rintro e w5 ⟨rfl, hb⟩
      have HB5 := hid (bb HB4.out hb)
      have HX5 := hid (HX4.out.below hb)
      clear hb f0 f1 f2 f3 f4 f5 f6 f7
      go_wp2_with fail
      go_ret
      exact ⟨rfl, HB5.out⟩
    have his : i < l.length := by rw [HN.out]; exact hlt
    obtain ⟨b, o, rfl, hbl, c0, c1, c2, c3⟩ := HR.out.below HB0.out i his
    have hin : (i : Int) < (n : Int) := by omega
    have HFI := hid (fun h => HFIN.out (HFF.out i his h))
    have HST := hid (fun h => HP.out.step his h)
    have HRI := hid (HR.out)
    have CW1 := hid (fun wx => g_c_spec_l14Word l[i].iss wx (HZ.out _ (List.getElem_mem his)))
    have CK1 := hid (fun wx => g_cKeyOkS l[i].n l[i].e l[i].d wx)
    unfold HandAt handB at HFI HST
    generalize hdx : l[i].iss = y at *
    generalize hdn : l[i].n = kn at *
    generalize hde : l[i].e = ke at *
    generalize hdd : l[i].d = kd at *
    clear hdx hdn hde hdd
    obtain ⟨f0, f1, f2, f3, f4, f5, f6, f7⟩ := HX0.out.cells
    have HY := hid (HdBox.new wr y kn ke kd 72)
    have HA := hid ((Below.refl wr.heap.size wr).alloc (Nat.le_refl _) (.cells #[.string y, .int .i64 kn, .int .i64 ke, .int .i64 kd] 72))
    obtain ⟨W1, hW1⟩ : ∃ W1, wr.alloc (.cells #[.string y, .int .i64 kn, .int .i64 ke, .int .i64 kd] 72) = W1 := ⟨_, rfl⟩
    rw [hW1] at HY HA
    obtain ⟨D, hD⟩ : ∃ D, wr.heap.size = D := ⟨_, rfl⟩
    rw [hD] at HY
    have HB1 := hid (bb HB0.out HA.out)
    have HX1 := hid (HX0.out.below HA.out)
    clear HP HFF HT4 HF4 HB0 HX0 HA
    obtain ⟨y0, y1, y2, y3⟩ := And.intro HY.out.c0 (And.intro HY.out.c1 (And.intro HY.out.c2 HY.out.c3))
    go_wp2_with fail
    refine (CW1.out _).mono ?_
    rintro e w1 ⟨rfl, hb⟩
    have HB2 := hid (bb HB1.out hb)
    have HX2 := hid (HX1.out.below hb)
    have HY2 := hid (HY.out.below hb)
    clear hb f0 f1 f2 f3 f4 f5 f6 f7 y0 y1 y2 y3 HB1 HX1 HY CW1 hW1 c0 c1 c2 c3 hbl
    obtain ⟨y1, y2, y3⟩ := And.intro HY2.out.c1 (And.intro HY2.out.c2 HY2.out.c3)
    cases hw : g_wordB y with
    | false =>
      have hv := HFI.out (by rw [hw]; simp)
      subst hv
      clear HFI HST CK1
      go_wp2_with fail
      go_ret
      exact ⟨rfl, HB2.out⟩
    | true =>
    rw [hw] at HFI HST
    clear hw
    go_wp2_with fail
    refine (CK1.out _).mono ?_
    rintro e w2 ⟨rfl, hb⟩
    have HB3 := hid (bb HB2.out hb)
    have HX3 := hid (HX2.out.below hb)
    have HY3 := hid (HY2.out.below hb)
    clear hb y1 y2 y3 HB2 HX2 HY2 CK1
    have y3 := HY3.out.c3
    cases hk : g_okB kn ke kd with
    | false =>
      have hv := HFI.out (by rw [hk]; simp)
      subst hv
      clear HFI HST
      go_wp2_with fail
      go_ret
      exact ⟨rfl, HB3.out⟩
    | true =>
    rw [hk] at HFI HST
    clear hk
    by_cases hd : kd = 0
    case neg =>
      have hv := HFI.out (by simp [hd])
      subst hv
      have hd' : (kd != 0) = true := by simpa using hd
      clear HFI HST
      go_wp2_with fail
      go_ret
      exact ⟨rfl, HB3.out⟩
    have hd' : (kd != 0) = false := by simpa using hd
    have HD0 := hid hd
    clear hd
    go_wp2_with fail
    clear y3 hd'
    obtain ⟨wo, hwo⟩ : ∃ wo : World, wo = w2 := ⟨w2, rfl⟩
    subst hwo
    go_loopw [5] (fun k wr => ∃ m : Nat, k = .int .i64 (m : Int) ∧ m ≤ i ∧ Hid (∀ (q : Nat) (hq : q < l.length), q < m → ¬ l[q].iss = y) ∧ Hid (Below w.heap.size w wr) ∧ Hid (GtBox wr B x (.slice (some ⟨b, o, none⟩) n ch) sk nw am (.slice aa na ca) rm (.slice ar nr cr)) ∧ Hid (HdBox wr D y kn ke kd)) (fun k _ => i - (intOf k).toNat)
    case atStart => exact ⟨0, rfl, Nat.zero_le _, fun q _ h => absurd h (Nat.not_lt_zero q), HB3.out, HX3.out, HY3.out⟩
    case round =>
      clear HB3 HX3 HY3
      obtain ⟨m, rfl, hm, HO, HB3, HX3, HY3⟩ := hrel
      by_cases hmi : m < i
      case neg =>
        have hme : m = i := by omega
        subst hme
        have HS := hid (HST.out ⟨by rw [HD0.out]; rfl, fun k hk => HO.out k (by omega) hk⟩)
        clear HFI HST HD0 HO
        go_wp2_with fail
        go_roundw
        case rel => exact ⟨m + 1, by go_num, by omega, HS.out, HB3.out, HX3.out⟩
        case measure => simp [intOf]; omega
      have hms : m < l.length := by omega
      obtain ⟨b', o', e', hbl, c0, _⟩ := HR.out.below HB3.out m hms
      injection e' with e'
      injection e' with e1 e2
      subst e1 e2
      have hmn : (m : Int) < (n : Int) := by omega
      have hmi' : (m : Int) < (i : Int) := by omega
      have HQ := hid (fun (hne : ¬ l[m].iss = y) => (show ∀ (q : Nat) (hq : q < l.length), q < m + 1 → ¬ l[q].iss = y from fun q hq hqm => by
        rcases Nat.lt_or_ge q m with h | h
        · exact HO.out q hq h
        · obtain rfl : q = m := by omega
          exact hne))
      have HNO := hid (fun (he : l[m].iss = y) => HFI.out (fun h => h.2 m hmi he))
      obtain ⟨u, hu⟩ : ∃ u, l[m].iss = u := ⟨_, rfl⟩
      rw [hu] at c0
      simp only [hu] at HQ HNO
      clear hu
      obtain ⟨f1, y0⟩ := And.intro HX3.out.c1 HY3.out.c0
      have hd := str_beq u y
      by_cases he : u = y
      case pos =>
        have hv := HNO.out he
        subst hv
        rw [decide_eq_true he] at hd
        clear HFI HST HQ HNO he HO
        go_wp2_with fail
        go_quiet (fail)
        go_wp2_with fail
        go_ret
        exact ⟨rfl, (HB3.out).grown (row := none) ⟨rfl, rfl, rfl, Nat.le_refl _, fun _ _ _ => rfl⟩ (HB3.out.size) (fun k e => by cases e)⟩
      case neg =>
        have HO2 := hid (HQ.out he)
        rw [decide_eq_false he] at hd
        clear HQ HNO he HO
        go_wp2_with fail
        go_quiet (fail)
        go_wp2_with fail
        go_roundw
        case rel => exact ⟨m + 1, by go_num, by omega, HO2.out, below_drewN HB3.out _, HX3.out.below (below_drewN (Below.refl _ _) _), HY3.out.below (below_drewN (Below.refl _ _) _)⟩
        case measure => simp [intOf]; omega

end Go.Proofs.YtgdfeicojgnoaaaGreatDoor
