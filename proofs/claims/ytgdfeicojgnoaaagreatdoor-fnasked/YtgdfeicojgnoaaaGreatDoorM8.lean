/- Contracts of what the exact laws call on gates: sized, copied, compared. How the laws hand gates in: toHand, toHandS, toGate. Contracts of the program's copiedRow, copiedRows, copiedTable. -/
import Derived.Test.YtgdfeicojgnoaaaGreatDoorM6
import Derived.Test.YtgdfeicojgnoaaaGreatDoorM7
import Derived.Test.YtgdfeicojgnoaaaGreatDoorM3
namespace Go.Proofs.YtgdfeicojgnoaaaGreatDoor
open Go.RowKit
set_option linter.unusedVariables false
set_option linter.unusedSimpArgs false

set_option maxHeartbeats 1000000 in
theorem cSzHand (x : ByteArray) (n e d : Int) (L : Nat) (w : World) (hL : L ≤ 1048576) (hx : x.size ≤ maxLen) :
    Calls Tryz.prog 84 #[.agg #[.string x, .int .i64 n, .int .i64 e, .int .i64 d], .int .i64 L] w fun e w' => ∃ r : Int, e = .returned (.int .i64 r) ∧ (r = -1 ∨ 0 ≤ r ∧ r = L - x.size) ∧ Below w.heap.size w w' := by
  unfold maxLen at hx
  by_cases h1 : (L : Int) - x.size < 0
  · go_enter Tryz.func84, Tryz.ntmps84
    go_wp2
    go_ret
    exact ⟨-1, rfl, .inl rfl, (Below.refl _ _).alloc (Nat.le_refl _) _⟩
  · go_enter Tryz.func84, Tryz.ntmps84
    go_wp2
    go_ret
    exact ⟨(L : Int) - x.size, rfl, .inr ⟨by omega, rfl⟩, (Below.refl _ _).alloc (Nat.le_refl _) _⟩

set_option maxHeartbeats 2000000 in
theorem cSzHandS (a : Option Addr) (cap : Nat) (l : List Hd) (L : Nat) (w : World) (hR : HdRow w a l) (hz : HdSz maxLen l) (hn : l.length ≤ maxLen) (hL : L ≤ 1048576) :
    Calls Tryz.prog 49 #[.slice a l.length cap, .int .i64 L] w fun e w' => ∃ r : Int, e = .returned (.int .i64 r) ∧ (r = -1 ∨ 0 ≤ r ∧ r ≤ L ∧ l.length ≤ L ∧ HdSz L l) ∧ Below w.heap.size w w' := by
  have HR := hid hR
  have HZ := hid hz
  clear hR hz
  unfold maxLen at hn
  obtain ⟨n, hnn⟩ : ∃ n, l.length = n := ⟨_, rfl⟩
  have HN := hid hnn
  rw [hnn] at hn ⊢
  clear hnn
  by_cases h1 : (L : Int) - n < 0
  · go_enter Tryz.func49, Tryz.ntmps49
    go_wp2
    go_ret
    exact ⟨-1, rfl, .inl rfl, Below.refl _ _⟩
  · go_enter Tryz.func49, Tryz.ntmps49
    go_wp2
    go_loopw [1, 5] (fun v k wr => ∃ (i M : Nat), k = .int .i64 (i : Int) ∧ i ≤ n ∧ v = .int .i64 (M : Int) ∧ M + n ≤ L ∧ Hid (HdSz L (l.take i)) ∧ Hid (Below w.heap.size w wr)) (fun _ k _ => n - (intOf k).toNat)
    case atStart => exact ⟨0, L - n, rfl, Nat.zero_le _, by go_num, by omega, fun s hs => by simp at hs, Below.refl _ _⟩
    case round =>
      obtain ⟨i, M, rfl, hi, rfl, hM, HA, HB⟩ := hrel
      by_cases hlt : i < n
      · have his : i < l.length := by rw [HN.out]; exact hlt
        obtain ⟨b, o, rfl, hb, c0, c1, c2, c3⟩ := HR.out.below HB.out i his
        have hin : (i : Int) < (n : Int) := by omega
        have HT := hid (take_snocN his)
        have z1 := HZ.out _ (List.getElem_mem his)
        have C := fun w => cSzHand l[i].iss l[i].n l[i].e l[i].d M w (by omega) z1
        have HE : Hid (∀ (x : ByteArray), l[i].iss = x → x.size ≤ L → HdSz L (l.take (i + 1))) := by
          intro x hx h1
          rw [HT.out]
          intro s hs
          rcases List.mem_append.1 hs with h | h
          · exact HA.out s h
          · rw [List.mem_singleton] at h
            subst h
            rw [hx]
            exact h1
        obtain ⟨x, hx⟩ : ∃ x, l[i].iss = x := ⟨_, rfl⟩
        have HX := hid hx
        rw [hx] at c0 C
        generalize l[i].n = kn at *
        generalize l[i].e = ke at *
        generalize l[i].d = kd at *
        clear hx z1
        go_wp2_with fail
        refine (C _).mono ?_
        rintro e w2 ⟨r, rfl, hr, hb2⟩
        have HB2 := hid (bb HB.out hb2)
        clear hb2 C
        rcases hr with rfl | ⟨h0, hr⟩
        · go_wp2_with fail
          go_ret
          exact ⟨-1, rfl, .inl rfl, HB2.out⟩
        · obtain ⟨R, rfl⟩ : ∃ R : Nat, r = R := ⟨r.toNat, by omega⟩
          go_wp2_with fail
          go_roundw
          case rel => exact ⟨i + 1, R, by go_num, by omega, by first | rfl | rw [← hr], by omega, HE.out x HX.out (by omega), HB2.out⟩
          case measure => simp [intOf]; omega
      · have hie : i = n := by omega
        subst hie
        have h2 := HA.out
        rw [List.take_of_length_le (by rw [HN.out]; exact Nat.le_refl _)] at h2
        have H2 := hid h2
        clear h2
        go_wp2_with fail
        go_ret
        exact ⟨M, rfl, .inr ⟨by omega, by omega, by omega, H2.out⟩, HB.out⟩

theorem cSzTableL (t : Tb) (a : Option Addr) (cap L : Nat) (w : World) (hR : RoRow w a t.rows) (hz : RoSz maxLen t.rows) (hn : t.rows.length ≤ maxLen) (hL : L ≤ 1048576) :
    Calls Tryz.prog 50 #[tbV t a cap, .int .i64 L] w fun e w' => ∃ r : Int, e = .returned (.int .i64 r) ∧ (r = -1 ∨ 0 ≤ r ∧ r ≤ L ∧ t.rows.length ≤ L ∧ RoSz L t.rows) ∧ Below w.heap.size w w' := by
  have C := hid (fun wx (h : Below w.heap.size w wx) => cSzRowS a cap t.rows L wx (hR.below h) hz hn hL)
  have HB0 := hid ((Below.refl w.heap.size w).alloc (Nat.le_refl _) (.cells #[.int .i64 t.most, .slice a t.rows.length cap] 45))
  obtain ⟨F, hF⟩ : ∃ F : Prop, (t.rows.length ≤ L ∧ RoSz L t.rows) = F := ⟨_, rfl⟩
  unfold tbV
  rw [hF] at C ⊢
  generalize t.rows.length = n at *
  generalize t.most = m at *
  clear hR hz hF
  go_enter Tryz.func50, Tryz.ntmps50
  go_wp2_with fail
  refine (C.out _ HB0.out).mono ?_
  rintro e w1 ⟨r, rfl, hr, hb1⟩
  have HB1 := hid (bb HB0.out hb1)
  have HR2 := hid hr
  clear hb1 hr C
  by_cases h0 : r < 0
  · go_wp2_with fail
    go_ret
    exact ⟨-1, rfl, .inl rfl, HB1.out⟩
  · go_wp2_with fail
    go_ret
    exact ⟨r, rfl, HR2.out, HB1.out⟩

set_option maxRecDepth 8000 in
set_option maxHeartbeats 4000000 in
theorem cSzGate (g : Gt) (ah : Option Addr) (ch : Nat) (aa : Option Addr) (ca : Nat) (ar : Option Addr) (cr : Nat) (w : World) (hR : GtRow w g ah aa ar) (hz : GtSz maxLen g) :
    Calls Tryz.prog 18 #[gtV g ah ch aa ca ar cr, .int .i64 1048576] w fun e w' => ∃ r : Int, e = .returned (.int .i64 r) ∧ (r = -1 ∨ 0 ≤ r ∧ GtSz 1048576 g) ∧ Below w.heap.size w w' := by
  obtain ⟨z1, z2, z3, z4, z5, z6, z7⟩ := hz
  have CH := hid (fun (L : Nat) wx (h : Below w.heap.size w wx) (hL : L ≤ 1048576) => cSzHandS ah ch g.hands L wx (hR.1.below h) z2 z3 hL)
  have CA := hid (fun (L : Nat) wx (h : Below w.heap.size w wx) (hL : L ≤ 1048576) => cSzTableL g.ask aa ca L wx (hR.2.1.below h) z4 z5 hL)
  have CR := hid (fun (L : Nat) wx (h : Below w.heap.size w wx) (hL : L ≤ 1048576) => cSzTableL g.hrd ar cr L wx (hR.2.2.below h) z6 z7 hL)
  have HX0 := hid (GtBox.new w g.name (.slice ah g.hands.length ch) g.skew g.now g.ask.most (.slice aa g.ask.rows.length ca) g.hrd.most (.slice ar g.hrd.rows.length cr) 47)
  have HB0 := hid ((Below.refl w.heap.size w).alloc (Nat.le_refl _) (.cells #[.string g.name, .slice ah g.hands.length ch, .int .i64 g.skew, .int .i64 g.now, .int .i64 g.ask.most, .slice aa g.ask.rows.length ca, .int .i64 g.hrd.most, .slice ar g.hrd.rows.length cr] 47))
  have HFIN := hid (fun (L1 L2 L3 : Nat) (h0 : g.name.size ≤ 1048576) (l1 : L1 ≤ 1048576) (l2 : L2 ≤ 1048576) (l3 : L3 ≤ 1048576) (h1 : g.hands.length ≤ L1 ∧ HdSz L1 g.hands) (h2 : g.ask.rows.length ≤ L2 ∧ RoSz L2 g.ask.rows) (h3 : g.hrd.rows.length ≤ L3 ∧ RoSz L3 g.hrd.rows) => (show GtSz 1048576 g from ⟨h0, h1.2.mono l1, Nat.le_trans h1.1 l1, h2.2.mono l2, Nat.le_trans h2.1 l2, h3.2.mono l3, Nat.le_trans h3.1 l3⟩))
  unfold maxLen at z1
  obtain ⟨F, hF⟩ : ∃ F : Prop, GtSz 1048576 g = F := ⟨_, rfl⟩
  rw [hF] at HFIN ⊢
  obtain ⟨P1, hP1⟩ : ∃ P : Nat → Prop, (fun L => g.hands.length ≤ L ∧ HdSz L g.hands) = P := ⟨_, rfl⟩
  obtain ⟨P2, hP2⟩ : ∃ P : Nat → Prop, (fun L => g.ask.rows.length ≤ L ∧ RoSz L g.ask.rows) = P := ⟨_, rfl⟩
  obtain ⟨P3, hP3⟩ : ∃ P : Nat → Prop, (fun L => g.hrd.rows.length ≤ L ∧ RoSz L g.hrd.rows) = P := ⟨_, rfl⟩
  have e1 : ∀ L, (g.hands.length ≤ L ∧ HdSz L g.hands) = P1 L := fun L => congrFun hP1 L
  have e2 : ∀ L, (g.ask.rows.length ≤ L ∧ RoSz L g.ask.rows) = P2 L := fun L => congrFun hP2 L
  have e3 : ∀ L, (g.hrd.rows.length ≤ L ∧ RoSz L g.hrd.rows) = P3 L := fun L => congrFun hP3 L
  simp only [e1, e2, e3] at CH CA CR HFIN
  unfold gtV
  unfold tbV at CA CR
  clear hF hP1 hP2 hP3 e1 e2 e3 hR z2 z3 z4 z5 z6 z7
  generalize g.name = x at *
  generalize g.hands.length = nh at *
  generalize g.skew = sk at *
  generalize g.now = nw at *
  generalize g.ask.most = am at *
  generalize g.ask.rows.length = na at *
  generalize g.hrd.most = rm at *
  generalize g.hrd.rows.length = nr at *
  obtain ⟨W0, hW0⟩ : ∃ W0, w.alloc (.cells #[.string x, .slice ah nh ch, .int .i64 sk, .int .i64 nw, .int .i64 am, .slice aa na ca, .int .i64 rm, .slice ar nr cr] 47) = W0 := ⟨_, rfl⟩
  rw [hW0] at HX0 HB0
  obtain ⟨B, hB⟩ : ∃ B, w.heap.size = B := ⟨_, rfl⟩
  rw [hB] at HX0
  obtain ⟨f0, f1, f2, f3, f4, f5, f6, f7⟩ := HX0.out.cells
  by_cases h1 : x.size ≤ 1048576
  case neg =>
    have h1' : (1048576 : Int) - (x.size : Int) < 0 := by omega
    go_enter Tryz.func18, Tryz.ntmps18
    go_wp2_with fail
    go_ret
    exact ⟨-1, rfl, .inl rfl, hB ▸ HB0.out⟩
  obtain ⟨L0, hL0⟩ : ∃ L0 : Nat, (1048576 : Int) - (x.size : Int) = (L0 : Int) := ⟨(1048576 - x.size), by omega⟩
  have h0 : ¬ (L0 : Int) < 0 := by omega
  have hL1 : L0 ≤ 1048576 := by omega
  have hw : IntKind.i64.wrap (L0 : Int) = (L0 : Int) := IntWalk.i64_in _ (by omega)
  have H1 := hid h1
  clear h1
  go_enter Tryz.func18, Tryz.ntmps18
  go_wp2_with fail
  clear hW0 f0 f1 f2 f3 f4 f5 f6 f7 hL0
  refine (CH.out L0 _ HB0.out hL1).mono ?_
  rintro e w1 ⟨r, rfl, hr, hb⟩
  have HB1 := hid (bb HB0.out hb)
  have HX1 := hid (HX0.out.below hb)
  clear hb CH
  rcases hr with rfl | ⟨h01, hl1, hq1⟩
  · go_wp2_with fail
    go_ret
    exact ⟨-1, rfl, .inl rfl, HB1.out⟩
  obtain ⟨L1, rfl⟩ : ∃ L : Nat, r = (L : Int) := ⟨r.toNat, by omega⟩
  have hL2 : L1 ≤ 1048576 := by omega
  have HQ1 := hid hq1
  clear hq1 h01
  have hn1 : ¬ (L1 : Int) < 0 := by omega
  obtain ⟨f0, f1, f2, f3, f4, f5, f6, f7⟩ := HX1.out.cells
  go_wp2_with fail
  clear f0 f1 f2 f3 f4 f5 f6 f7
  refine (CA.out L1 _ HB1.out hL2).mono ?_
  rintro e w2 ⟨r, rfl, hr, hb⟩
  have HB2 := hid (bb HB1.out hb)
  have HX2 := hid (HX1.out.below hb)
  clear hb CA
  rcases hr with rfl | ⟨h02, hl2, hq2⟩
  · go_wp2_with fail
    go_ret
    exact ⟨-1, rfl, .inl rfl, HB2.out⟩
  obtain ⟨L2, rfl⟩ : ∃ L : Nat, r = (L : Int) := ⟨r.toNat, by omega⟩
  have hL3 : L2 ≤ 1048576 := by omega
  have HQ2 := hid hq2
  clear hq2 h02
  have hn2 : ¬ (L2 : Int) < 0 := by omega
  obtain ⟨f0, f1, f2, f3, f4, f5, f6, f7⟩ := HX2.out.cells
  go_wp2_with fail
  clear f0 f1 f2 f3 f4 f5 f6 f7
  refine (CR.out L2 _ HB2.out hL3).mono ?_
  rintro e w3 ⟨r, rfl, hr, hb⟩
  have HB3 := hid (bb HB2.out hb)
  have HX3 := hid (HX2.out.below hb)
  clear hb CR
  rcases hr with rfl | ⟨h03, hl3, hq3⟩
  · go_wp2_with fail
    go_ret
    exact ⟨-1, rfl, .inl rfl, HB3.out⟩
  obtain ⟨L3, rfl⟩ : ∃ L : Nat, r = (L : Int) := ⟨r.toNat, by omega⟩
  have hL4 : L3 ≤ 1048576 := by omega
  have HQ3 := hid hq3
  clear hq3 h03
  have hn3 : ¬ (L3 : Int) < 0 := by omega
  obtain ⟨f0, f1, f2, f3, f4, f5, f6, f7⟩ := HX3.out.cells
  go_wp2_with fail
  clear f0 f1 f2 f3 f4 f5 f6 f7
  go_ret
  exact ⟨_, rfl, .inr ⟨by omega, HFIN.out L0 L1 L2 H1.out hL1 hL2 hL3 HQ1.out HQ2.out HQ3.out⟩, HB3.out⟩

theorem cEqHand (x : ByteArray) (n e d : Int) (w : World) :
    Calls Tryz.prog 88 #[.agg #[.string x, .int .i64 n, .int .i64 e, .int .i64 d], .agg #[.string x, .int .i64 n, .int .i64 e, .int .i64 d]] w fun r w' => r = .returned (.bool true) ∧ Below w.heap.size w w' := by
  have C := hid (fun wx => g_cEqKey n e d wx)
  have HB0 := hid (((Below.refl w.heap.size w).alloc (Nat.le_refl _) (.cells #[.string x, .int .i64 n, .int .i64 e, .int .i64 d] 72)).alloc (by simp) (.cells #[.string x, .int .i64 n, .int .i64 e, .int .i64 d] 72))
  go_enter Tryz.func88, Tryz.ntmps88
  go_wp2_with fail
  refine (C.out _).mono ?_
  rintro r w1 ⟨rfl, hb1⟩
  have HB1 := hid (bb HB0.out hb1)
  clear hb1
  go_wp2_with fail
  go_ret
  exact ⟨rfl, HB1.out⟩

theorem g_pair_bw {W : World} {b o : Nat} {v0 v1 v2 v3 : Value} (hb : b < W.heap.size) (h0 : W.cell? ⟨b, o, none⟩ = some v0) (h1 : W.cell? ⟨b, o + 1, none⟩ = some v1) (h2 : W.cell? ⟨b, o + 2, none⟩ = some v2) (h3 : W.cell? ⟨b, o + 3, none⟩ = some v3) :
    (∀ p : BW W, p.w.cell? ⟨b, o, none⟩ = some v0) ∧ (∀ p : BW W, p.w.cell? ⟨b, o + 1, none⟩ = some v1) ∧ (∀ p : BW W, p.w.cell? ⟨b, o + 2, none⟩ = some v2) ∧ (∀ p : BW W, p.w.cell? ⟨b, o + 3, none⟩ = some v3) :=
  ⟨(pair_bw hb h0 h1).1, (pair_bw hb h0 h1).2, (pair_bw hb h2 h3).1, (pair_bw hb h2 h3).2⟩

set_option maxHeartbeats 2000000 in
theorem cEqHandS (a c : Option Addr) (cap cap2 : Nat) (l : List Hd) (w : World) (hR : HdRow w a l) (hT : HdRow w c l) (hn : l.length ≤ 1048576) :
    Calls Tryz.prog 53 #[.slice a l.length cap, .slice c l.length cap2] w fun e w' => e = .returned (.bool true) ∧ Below w.heap.size w w' := by
  have HR := hid hR
  have HT := hid hT
  clear hR hT
  obtain ⟨n, hnn⟩ : ∃ n, l.length = n := ⟨_, rfl⟩
  have HN := hid hnn
  rw [hnn] at hn ⊢
  clear hnn
  go_enter Tryz.func53, Tryz.ntmps53
  go_wp2
  go_loopw [5] (fun k wr => ∃ i : Nat, k = .int .i64 (i : Int) ∧ i ≤ n ∧ Hid (Below w.heap.size w wr)) (fun k _ => n - (intOf k).toNat)
  case atStart => exact ⟨0, rfl, Nat.zero_le _, Below.refl _ _⟩
  case round =>
    obtain ⟨i, rfl, hi, HB⟩ := hrel
    by_cases hlt : i < n
    · have his : i < l.length := by rw [HN.out]; exact hlt
      have hin : (i : Int) < (n : Int) := by omega
      obtain ⟨b, o, rfl, hb, c0, c1, c2, c3⟩ := HR.out.below HB.out i his
      obtain ⟨b2, o2, rfl, hb', k0, k1, k2, k3⟩ := HT.out.below HB.out i his
      have C := fun w => cEqHand l[i].iss l[i].n l[i].e l[i].d w
      generalize l[i].iss = x at *
      generalize l[i].n = kn at *
      generalize l[i].e = ke at *
      generalize l[i].d = kd at *
      have HNB := hid (bw_any wr)
      obtain ⟨d0, d1, d2, d3⟩ := g_pair_bw hb c0 c1 c2 c3
      obtain ⟨j0, j1, j2, j3⟩ := g_pair_bw hb' k0 k1 k2 k3
      clear c0 c1 c2 c3 k0 k1 k2 k3
      go_wp2_with fail
      haveI := HNB.out
      refine wp_region_below (by kernel_rfl) (by kernel_rfl) (Below.refl wr.heap.size wr) ?_
      repeat (go_big_quiet_step ((go_at_call 88; exact calls_bw _ (C _))))
      refine wpQuiet_nil ?_
      intro wq hw'
      obtain ⟨⟨wz, hwq⟩, hw''⟩ := hw'
      subst hw''
      have HB2 := hid (bb HB.out hwq)
      clear C d0 d1 d2 d3 j0 j1 j2 j3
      go_wp2_with fail
      go_roundw
      case rel => exact ⟨i + 1, by go_num, by omega, HB2.out⟩
      case measure => simp [intOf]; omega
    · have hie : i = n := by omega
      subst hie
      go_wp2_with fail
      go_ret
      exact ⟨rfl, HB.out⟩

set_option maxRecDepth 8000 in
set_option maxHeartbeats 4000000 in
theorem cEqGate (g : Gt) (ah bh : Option Addr) (ch dh : Nat) (aa ba : Option Addr) (ca da : Nat) (ar br : Option Addr) (cr dr : Nat) (w : World) (hR : GtRow w g ah aa ar) (hS : GtRow w g bh ba br) (hz : GtSz 1048576 g) :
    Calls Tryz.prog 20 #[gtV g ah ch aa ca ar cr, gtV g bh dh ba da br dr] w fun e w' => e = .returned (.bool true) ∧ Below w.heap.size w w' := by
  obtain ⟨z1, z2, z3, z4, z5, z6, z7⟩ := hz
  have CH := hid (fun wx (h : Below w.heap.size w wx) => cEqHandS ah bh ch dh g.hands wx (hR.1.below h) (hS.1.below h) z3)
  have CA := hid (fun wx (h : Below w.heap.size w wx) => cEqTable g.ask aa ba ca da wx (hR.2.1.below h) (hS.2.1.below h) z4 z5)
  have CR := hid (fun wx (h : Below w.heap.size w wx) => cEqTable g.hrd ar br cr dr wx (hR.2.2.below h) (hS.2.2.below h) z6 z7)
  unfold gtV
  unfold tbV at CA CR
  clear hR hS z1 z2 z3 z4 z5 z6 z7
  generalize g.name = x at *
  generalize g.hands.length = nh at *
  generalize g.skew = sk at *
  generalize g.now = nw at *
  generalize g.ask.most = am at *
  generalize g.ask.rows.length = na at *
  generalize g.hrd.most = rm at *
  generalize g.hrd.rows.length = nr at *
  obtain ⟨o1, ho1⟩ : ∃ o, Obj.cells #[.string x, .slice ah nh ch, .int .i64 sk, .int .i64 nw, .int .i64 am, .slice aa na ca, .int .i64 rm, .slice ar nr cr] 29 (0, 0) = o := ⟨_, rfl⟩
  obtain ⟨o2, ho2⟩ : ∃ o, Obj.cells #[.string x, .slice bh nh dh, .int .i64 sk, .int .i64 nw, .int .i64 am, .slice ba na da, .int .i64 rm, .slice br nr dr] 29 (0, 0) = o := ⟨_, rfl⟩
  have HX0 := hid (show GtBox ((w.alloc o1).alloc o2) w.heap.size x (.slice ah nh ch) sk nw am (.slice aa na ca) rm (.slice ar nr cr) from GtBox.of (T := 29) (by rw [(u_heap2 w o1 o2).1, ho1]))
  have HY0 := hid (show GtBox ((w.alloc o1).alloc o2) (w.heap.size + 1) x (.slice bh nh dh) sk nw am (.slice ba na da) rm (.slice br nr dr) from GtBox.of (T := 29) (by rw [(u_heap2 w o1 o2).2, ho2]))
  have HB0 := hid (((Below.refl w.heap.size w).alloc (Nat.le_refl _) o1).alloc (by simp) o2)
  rw [← ho1, ← ho2] at HX0 HY0 HB0
  clear ho1 ho2 o1 o2
  obtain ⟨W0, hW0⟩ : ∃ W0, (w.alloc (.cells #[.string x, .slice ah nh ch, .int .i64 sk, .int .i64 nw, .int .i64 am, .slice aa na ca, .int .i64 rm, .slice ar nr cr] 29)).alloc (.cells #[.string x, .slice bh nh dh, .int .i64 sk, .int .i64 nw, .int .i64 am, .slice ba na da, .int .i64 rm, .slice br nr dr] 29) = W0 := ⟨_, rfl⟩
  rw [hW0] at HX0 HY0 HB0
  obtain ⟨B, hB⟩ : ∃ B, w.heap.size = B := ⟨_, rfl⟩
  rw [hB] at HX0 HY0
  have e2 : (sk != sk) = false := by simp
  have e3 : (nw != nw) = false := by simp
  obtain ⟨f0, f1, f2, f3, f4, f5, f6, f7⟩ := HX0.out.cells
  obtain ⟨y0, y1, y2, y3, y4, y5, y6, y7⟩ := HY0.out.cells
  go_enter Tryz.func20, Tryz.ntmps20
  go_wp2_with fail
  clear hW0
  refine (CH.out _ HB0.out).mono ?_
  rintro e w1 ⟨rfl, hb⟩
  have HB1 := hid (bb HB0.out hb)
  have HX1 := hid (HX0.out.below hb)
  have HY1 := hid (HY0.out.below hb)
  clear hb f0 f1 f2 f3 f4 f5 f6 f7 y0 y1 y2 y3 y4 y5 y6 y7
  obtain ⟨f0, f1, f2, f3, f4, f5, f6, f7⟩ := HX1.out.cells
  obtain ⟨y0, y1, y2, y3, y4, y5, y6, y7⟩ := HY1.out.cells
  go_wp2_with fail
  refine (CA.out _ HB1.out).mono ?_
  rintro e w2 ⟨rfl, hb⟩
  have HB2 := hid (bb HB1.out hb)
  have HX2 := hid (HX1.out.below hb)
  have HY2 := hid (HY1.out.below hb)
  clear hb f0 f1 f2 f3 f4 f5 f6 f7 y0 y1 y2 y3 y4 y5 y6 y7
  obtain ⟨f0, f1, f2, f3, f4, f5, f6, f7⟩ := HX2.out.cells
  obtain ⟨y0, y1, y2, y3, y4, y5, y6, y7⟩ := HY2.out.cells
  go_wp2_with fail
  refine (CR.out _ HB2.out).mono ?_
  rintro e w3 ⟨rfl, hb⟩
  have HB3 := hid (bb HB2.out hb)
  clear hb f0 f1 f2 f3 f4 f5 f6 f7 y0 y1 y2 y3 y4 y5 y6 y7
  go_wp2_with fail
  go_ret
  exact ⟨rfl, hB ▸ HB3.out⟩

end Go.Proofs.YtgdfeicojgnoaaaGreatDoor

namespace Go.Proofs.YtgdfeicojgnoaaaGreatDoor
open Go.RowKit
set_option linter.unusedVariables false
set_option linter.unusedSimpArgs false

theorem g_box4f {w : World} {g : Nat} {a b c d : Value} {T : TypeId} (h : w.heap[g]? = some (.cells #[a, b, c, d] T (0, 0))) :
    (w.cell? ⟨g, 0, none⟩ = some a ∧ w.cell? ⟨g, 1, none⟩ = some b ∧ w.cell? ⟨g, 2, none⟩ = some c ∧ w.cell? ⟨g, 3, none⟩ = some d) ∧ w.frozen? ⟨g, 0, none⟩ = false ∧ w.frozen? ⟨g, 1, none⟩ = false ∧ w.frozen? ⟨g, 2, none⟩ = false ∧ w.frozen? ⟨g, 3, none⟩ = false :=
  ⟨⟨Lib.cell_of_heap h _, Lib.cell_of_heap h _, Lib.cell_of_heap h _, Lib.cell_of_heap h _⟩, Lib.frozen_of_heap h _, Lib.frozen_of_heap h _, Lib.frozen_of_heap h _, Lib.frozen_of_heap h _⟩

theorem g_box8f {w : World} {g : Nat} {a b c d e f i j : Value} {T : TypeId} (h : w.heap[g]? = some (.cells #[a, b, c, d, e, f, i, j] T (0, 0))) :
    (w.cell? ⟨g, 0, none⟩ = some a ∧ w.cell? ⟨g, 1, none⟩ = some b ∧ w.cell? ⟨g, 2, none⟩ = some c ∧ w.cell? ⟨g, 3, none⟩ = some d ∧ w.cell? ⟨g, 4, none⟩ = some e ∧ w.cell? ⟨g, 5, none⟩ = some f ∧ w.cell? ⟨g, 6, none⟩ = some i ∧ w.cell? ⟨g, 7, none⟩ = some j) ∧ ∀ o, w.frozen? ⟨g, o, none⟩ = false :=
  ⟨⟨Lib.cell_of_heap h _, Lib.cell_of_heap h _, Lib.cell_of_heap h _, Lib.cell_of_heap h _, Lib.cell_of_heap h _, Lib.cell_of_heap h _, Lib.cell_of_heap h _, Lib.cell_of_heap h _⟩, fun o => Lib.frozen_of_heap h o⟩

set_option maxHeartbeats 2000000 in
theorem cToHand (x : ByteArray) (n e d : Int) (w : World) :
    Calls Tryz.prog 86 #[.agg #[.string x, .int .i64 n, .int .i64 e, .int .i64 d]] w fun r w' => r = .returned (.agg #[.string x, .int .i64 n, .int .i64 e, .int .i64 d]) ∧ Below w.heap.size w w' := by
  have C := hid (fun wx => g_cToKey n e d wx)
  obtain ⟨b1, b2, b3⟩ := u_heap3 w (.cells #[.string x, .int .i64 n, .int .i64 e, .int .i64 d] 121) (.cells #[.string ⟨#[]⟩, .int .i64 0, .int .i64 0, .int .i64 0] 72) (.cells #[.string x, .int .i64 0, .int .i64 0, .int .i64 0] 72)
  have HB0 := hid ((((Below.refl w.heap.size w).alloc (Nat.le_refl _) (.cells #[.string x, .int .i64 n, .int .i64 e, .int .i64 d] 121)).alloc (by simp) (.cells #[.string ⟨#[]⟩, .int .i64 0, .int .i64 0, .int .i64 0] 72)).alloc (by simp; omega) (.cells #[.string x, .int .i64 0, .int .i64 0, .int .i64 0] 72))
  have H1 := hid b1
  have H2 := hid b2
  have H3 := hid b3
  clear b1 b2 b3
  go_enter Tryz.func86, Tryz.ntmps86
  go_wp2_with fail
  refine (C.out _).mono ?_
  rintro r w1 ⟨rfl, hb1⟩
  have HB1 := hid (bb HB0.out hb1)
  obtain ⟨⟨x0, x1, x2, x3⟩, _⟩ := g_box4f (u_blk_below H1.out hb1)
  obtain ⟨⟨y0, y1, y2, y3⟩, yf0, yf1, yf2, yf3⟩ := g_box4f (u_blk_below H2.out hb1)
  obtain ⟨⟨z0, z1, z2, z3⟩, zf0, zf1, zf2, zf3⟩ := g_box4f (u_blk_below H3.out hb1)
  clear hb1 HB0 H1 H2 H3 C
  go_wp2_with fail
  refine bodyPost_ret (v := .agg #[.string x, .int .i64 n, .int .i64 e, .int .i64 d]) (by simp [results, Tryz.results86, go_sem, y0, y1, y2, y3, z0, z1, z2, z3]) rfl ⟨rfl, ?_⟩
  iterate 7 refine Below.setCell ?_ (by simp; try omega) _
  exact HB1.out

theorem infoHd : (Tryz.prog.info? 72).map (fun i => (i.zero, i.size, i.bytes)) = some (some (.agg #[.string ⟨#[]⟩, .int .i64 0, .int .i64 0, .int .i64 0]), 4, 40) := by kernel_rfl

theorem makeHd (w : World) (n : Nat) (hn : n ≤ 1048576) : ∃ v w', (Instr.makeSlice 24 (.int .i64 (n : Int)) (.int .i64 (n : Int))).run Tryz.prog w = .ok v w' ∧ v = .slice (some ⟨w.heap.size, 0, none⟩) n n ∧ (∃ cur : Array Value, w'.heap[w.heap.size]? = some (.cells cur 72 (0, 0)) ∧ cur.size = n * 4) ∧ w.grownBy w' none := by
  obtain ⟨i0, hi, hz0, hz1, hz2⟩ := info_parts infoHd
  obtain ⟨w', hrun, r1, r2⟩ := run_make_full (P := Tryz.prog) w w.heap.size 24 72 i0 _ 4 Tryz.underlying24 hi hz0 hz1 .i64 .i64 n (by rw [hz2]; omega) (by unfold maxLen; omega) (Nat.le_refl _)
  refine ⟨_, w', hrun, rfl, ?_, r2⟩
  rcases r1.2 with ⟨h, _⟩ | ⟨g, cap', cur, h, hgb, hh, _, _, hsz, _⟩
  · cases h
  · cases h
    exact ⟨cur, hh, by omega⟩

/-- Four cells of a row written. -/
def put4 (cu : Array Value) (i : Nat) (x : ByteArray) (n e d : Int) : Array Value := (((cu.setIfInBounds (i * 4) (.string x)).setIfInBounds (i * 4 + 1) (.int .i64 n)).setIfInBounds (i * 4 + 2) (.int .i64 e)).setIfInBounds (i * 4 + 3) (.int .i64 d)

theorem put4_size (cu : Array Value) (i : Nat) (x : ByteArray) (n e d : Int) : (put4 cu i x n e d).size = cu.size := by simp [put4]

theorem put4_cells {cu : Array Value} {l : List Hd} {i n : Nat} (hs : cu.size = n * 4) (hi : i < n) (h : i < l.length)
    (HA : ∀ j (h : j < l.length), j < i → cu[j * 4]? = some (.string l[j].iss) ∧ cu[j * 4 + 1]? = some (.int .i64 l[j].n) ∧ cu[j * 4 + 2]? = some (.int .i64 l[j].e) ∧ cu[j * 4 + 3]? = some (.int .i64 l[j].d)) :
    ∀ j (h : j < l.length), j < i + 1 → (put4 cu i l[i].iss l[i].n l[i].e l[i].d)[j * 4]? = some (.string l[j].iss) ∧ (put4 cu i l[i].iss l[i].n l[i].e l[i].d)[j * 4 + 1]? = some (.int .i64 l[j].n) ∧ (put4 cu i l[i].iss l[i].n l[i].e l[i].d)[j * 4 + 2]? = some (.int .i64 l[j].e) ∧ (put4 cu i l[i].iss l[i].n l[i].e l[i].d)[j * 4 + 3]? = some (.int .i64 l[j].d) := by
  intro j hj hji
  unfold put4
  by_cases e : i = j
  · subst e
    simp only [Array.getElem?_setIfInBounds, Array.size_setIfInBounds, hs]
    refine ⟨?_, ?_, ?_, ?_⟩
    · rw [if_neg (by omega), if_neg (by omega), if_neg (by omega), if_pos trivial, if_pos (by omega)]
    · rw [if_neg (by omega), if_neg (by omega), if_pos trivial, if_pos (by omega)]
    · rw [if_neg (by omega), if_pos trivial, if_pos (by omega)]
    · rw [if_pos trivial, if_pos (by omega)]
  · have := HA j hj (by omega)
    simp only [Array.getElem?_setIfInBounds]
    refine ⟨?_, ?_, ?_, ?_⟩
    · rw [if_neg (by omega), if_neg (by omega), if_neg (by omega), if_neg (by omega)]; exact this.1
    · rw [if_neg (by omega), if_neg (by omega), if_neg (by omega), if_neg (by omega)]; exact this.2.1
    · rw [if_neg (by omega), if_neg (by omega), if_neg (by omega), if_neg (by omega)]; exact this.2.2.1
    · rw [if_neg (by omega), if_neg (by omega), if_neg (by omega), if_neg (by omega)]; exact this.2.2.2

set_option maxHeartbeats 4000000 in
set_option maxRecDepth 8000 in
theorem cToHandS (a : Option Addr) (cap : Nat) (l : List Hd) (w : World) (hR : HdRow w a l) (hn : l.length ≤ 1048576) :
    Calls Tryz.prog 51 #[.slice a l.length cap] w fun e w' => ∃ g cu, w.heap.size ≤ g ∧ e = .returned (.slice (some ⟨g, 0, none⟩) l.length l.length) ∧ w'.heap[g]? = some (.cells cu 72 (0, 0)) ∧ HdCells cu 0 l ∧ Below w.heap.size w w' := by
  have HR := hid hR
  clear hR
  obtain ⟨n, hnn⟩ : ∃ n, l.length = n := ⟨_, rfl⟩
  have HN := hid hnn
  rw [hnn] at hn ⊢
  clear hnn
  go_enter Tryz.func51, Tryz.ntmps51
  go_wp2_with fail
  refine upon_ex (makeHd w n hn) ?_
  rintro _ w1 ⟨rfl, ⟨cur, hcur, hcs⟩, hg⟩
  have HB := hid ((Below.refl w.heap.size w).grown hg (Nat.le_refl _) (by simp))
  have HC := hid hcur
  clear hcur hg
  go_wp2_with fail
  go_loopw [4] (fun k wr => ∃ (i : Nat) (cur : Array Value), k = .int .i64 (i : Int) ∧ i ≤ n ∧ Hid (wr.heap[w.heap.size]? = some (.cells cur 72 (0, 0))) ∧ cur.size = n * 4 ∧ Hid (∀ j (h : j < l.length), j < i → cur[j * 4]? = some (.string l[j].iss) ∧ cur[j * 4 + 1]? = some (.int .i64 l[j].n) ∧ cur[j * 4 + 2]? = some (.int .i64 l[j].e) ∧ cur[j * 4 + 3]? = some (.int .i64 l[j].d)) ∧ Hid (Below w.heap.size w wr)) (fun k _ => n - (intOf k).toNat)
  case atStart => exact ⟨0, cur, rfl, Nat.zero_le _, HC.out, hcs, fun j _ h => by omega, HB.out⟩
  case round =>
    clear HC HB hcs cur
    obtain ⟨i, cur, rfl, hi, HH, hcs, HA, HB⟩ := hrel
    have hsz : w.heap.size < wr.heap.size := lt_of_heap HH.out
    by_cases hlt : i < n
    · have his : i < l.length := by rw [HN.out]; exact hlt
      obtain ⟨b, o, rfl, hb, c0, c1, c2, c3⟩ := HR.out.below HB.out i his
      have hin : (i : Int) < (n : Int) := by omega
      have HA2 := hid (put4_cells hcs hlt his HA.out)
      generalize hdx : l[i].iss = x at *
      generalize hdn : l[i].n = kn at *
      generalize hde : l[i].e = ke at *
      generalize hdd : l[i].d = kd at *
      clear hdx hdn hde hdd
      have C := fun w => cToHand x kn ke kd w
      go_wp2_with fail
      refine (C _).mono ?_
      rintro e w2 ⟨rfl, hb2⟩
      have HB2 := hid (HB.out.trans (hb2.mono HB.out.size))
      have HH2 := hid ((hb2.block _ (lt_of_heap HH.out)).trans HH.out)
      have kk : ∀ q, q < 4 → ∃ v, w2.cell? ⟨w.heap.size, i * 4 + q, none⟩ = some v := fun q hq => by
        rw [Lib.cell_of_heap HH2.out]
        exact ⟨cur[i * 4 + q]'(by omega), Array.getElem?_eq_getElem (by omega)⟩
      obtain ⟨o0, k0⟩ := kk 0 (by decide)
      obtain ⟨o1, k1⟩ := kk 1 (by decide)
      obtain ⟨o2, k2⟩ := kk 2 (by decide)
      obtain ⟨o3, k3⟩ := kk 3 (by decide)
      rw [Nat.add_zero] at k0
      have f0 : w2.frozen? ⟨w.heap.size, i * 4, none⟩ = false := Lib.frozen_of_heap HH2.out _
      have f1 : w2.frozen? ⟨w.heap.size, i * 4 + 1, none⟩ = false := Lib.frozen_of_heap HH2.out _
      have f2 : w2.frozen? ⟨w.heap.size, i * 4 + 2, none⟩ = false := Lib.frozen_of_heap HH2.out _
      have f3 : w2.frozen? ⟨w.heap.size, i * 4 + 3, none⟩ = false := Lib.frozen_of_heap HH2.out _
      have HS2 := hid (show ((((w2.setCell ⟨w.heap.size, i * 4, none⟩ (.string x)).setCell ⟨w.heap.size, i * 4 + 1, none⟩ (.int .i64 kn)).setCell ⟨w.heap.size, i * 4 + 2, none⟩ (.int .i64 ke)).setCell ⟨w.heap.size, i * 4 + 3, none⟩ (.int .i64 kd)).heap[w.heap.size]? = some (.cells (put4 cur i x kn ke kd) 72 (0, 0)) from u_heap_set (u_heap_set (u_heap_set (u_heap_set HH2.out _) _) _) _)
      have HB3 := hid ((((HB2.out.setCell (p := ⟨w.heap.size, i * 4, none⟩) (Nat.le_refl _) (.string x)).setCell (p := ⟨w.heap.size, i * 4 + 1, none⟩) (Nat.le_refl _) (.int .i64 kn)).setCell (p := ⟨w.heap.size, i * 4 + 2, none⟩) (Nat.le_refl _) (.int .i64 ke)).setCell (p := ⟨w.heap.size, i * 4 + 3, none⟩) (Nat.le_refl _) (.int .i64 kd))
      have HC2 := hid (show (put4 cur i x kn ke kd).size = n * 4 by rw [put4_size, hcs])
      clear hb2 C c0 c1 c2 c3 kk
      go_wp2_with fail
      go_roundw
      case rel => exact ⟨i + 1, _, by go_num, by omega, HS2.out, HC2.out, HA2.out, HB3.out⟩
      case measure => simp [intOf]; omega
    · have hie : i = n := by omega
      subst hie
      go_wp2_with fail
      go_ret
      exact ⟨w.heap.size, cur, Nat.le_refl _, rfl, HH.out, fun j hj => by rw [Nat.zero_add]; exact HA.out j hj (by rw [← HN.out]; exact hj), HB.out⟩

/-- A gate that lies in memory of its own. -/
def GtNew (w : World) (B : Nat) (g : Gt) (gh ga gr : Nat) : Prop :=
  B ≤ gh ∧ gh < ga ∧ ga < gr ∧ (∃ cu, w.heap[gh]? = some (.cells cu 72 (0, 0)) ∧ HdCells cu 0 g.hands) ∧ (∃ cu, w.heap[ga]? = some (.cells cu 83 (0, 0)) ∧ RoCells cu 0 g.ask.rows) ∧ ∃ cu, w.heap[gr]? = some (.cells cu 83 (0, 0)) ∧ RoCells cu 0 g.hrd.rows

theorem GtNew.row {w : World} {B : Nat} {g : Gt} {gh ga gr : Nat} (h : GtNew w B g gh ga gr) : GtRow w g (some ⟨gh, 0, none⟩) (some ⟨ga, 0, none⟩) (some ⟨gr, 0, none⟩) := by
  obtain ⟨_, _, _, ⟨c1, h1, k1⟩, ⟨c2, h2, k2⟩, c3, h3, k3⟩ := h
  exact ⟨k1.row h1, k2.row h2, k3.row h3⟩

theorem GtNew.below {w w' : World} {B : Nat} {g : Gt} {gh ga gr : Nat} (h : GtNew w B g gh ga gr) (hb : Below w.heap.size w w') : GtNew w' B g gh ga gr := by
  obtain ⟨q1, q2, q3, ⟨c1, h1, k1⟩, ⟨c2, h2, k2⟩, c3, h3, k3⟩ := h
  exact ⟨q1, q2, q3, ⟨c1, u_blk_below h1 hb, k1⟩, ⟨c2, u_blk_below h2 hb, k2⟩, c3, u_blk_below h3 hb, k3⟩

set_option maxRecDepth 8000 in
set_option maxHeartbeats 8000000 in
theorem cToGate (g : Gt) (ah : Option Addr) (ch : Nat) (aa : Option Addr) (ca : Nat) (ar : Option Addr) (cr : Nat) (w : World) (hR : GtRow w g ah aa ar) (hz : GtSz 1048576 g) :
    Calls Tryz.prog 19 #[gtV g ah ch aa ca ar cr] w fun e w' => ∃ gh ga gr, e = .returned (gtV g (some ⟨gh, 0, none⟩) g.hands.length (some ⟨ga, 0, none⟩) g.ask.rows.length (some ⟨gr, 0, none⟩) g.hrd.rows.length) ∧ GtNew w' w.heap.size g gh ga gr ∧ Below w.heap.size w w' := by
  obtain ⟨z1, z2, z3, z4, z5, z6, z7⟩ := hz
  have CH := hid (fun wx (h : Below w.heap.size w wx) => cToHandS ah ch g.hands wx (hR.1.below h) z3)
  have CA := hid (fun wx (h : Below w.heap.size w wx) => cToTable g.ask aa ca wx (hR.2.1.below h) z5)
  have CR := hid (fun wx (h : Below w.heap.size w wx) => cToTable g.hrd ar cr wx (hR.2.2.below h) z7)
  unfold gtV GtNew
  unfold tbV at CA CR
  clear hR z1 z2 z3 z4 z5 z6 z7
  generalize g.name = x at *
  generalize g.skew = sk at *
  generalize g.now = nw at *
  generalize g.ask.most = am at *
  generalize g.hrd.most = rm at *
  generalize g.hands.length = nh at *
  generalize g.ask.rows.length = na at *
  generalize g.hrd.rows.length = nr at *
  obtain ⟨b1, b2, b3⟩ := u_heap3 w (.cells #[.string x, .slice ah nh ch, .int .i64 sk, .int .i64 nw, .int .i64 am, .slice aa na ca, .int .i64 rm, .slice ar nr cr] 47) (.cells #[.string ⟨#[]⟩, .slice none 0 0, .int .i64 0, .int .i64 0, .int .i64 0, .slice none 0 0, .int .i64 0, .slice none 0 0] 29) (.cells #[.string x, .slice none 0 0, .int .i64 0, .int .i64 0, .int .i64 0, .slice none 0 0, .int .i64 0, .slice none 0 0] 29)
  have HB0 := hid ((((Below.refl w.heap.size w).alloc (Nat.le_refl _) (.cells #[.string x, .slice ah nh ch, .int .i64 sk, .int .i64 nw, .int .i64 am, .slice aa na ca, .int .i64 rm, .slice ar nr cr] 47)).alloc (by simp) (.cells #[.string ⟨#[]⟩, .slice none 0 0, .int .i64 0, .int .i64 0, .int .i64 0, .slice none 0 0, .int .i64 0, .slice none 0 0] 29)).alloc (by simp; omega) (.cells #[.string x, .slice none 0 0, .int .i64 0, .int .i64 0, .int .i64 0, .slice none 0 0, .int .i64 0, .slice none 0 0] 29))
  have HSZ := hid (show (((w.alloc (.cells #[.string x, .slice ah nh ch, .int .i64 sk, .int .i64 nw, .int .i64 am, .slice aa na ca, .int .i64 rm, .slice ar nr cr] 47)).alloc (.cells #[.string ⟨#[]⟩, .slice none 0 0, .int .i64 0, .int .i64 0, .int .i64 0, .slice none 0 0, .int .i64 0, .slice none 0 0] 29)).alloc (.cells #[.string x, .slice none 0 0, .int .i64 0, .int .i64 0, .int .i64 0, .slice none 0 0, .int .i64 0, .slice none 0 0] 29)).heap.size = w.heap.size + 3 by simp)
  obtain ⟨W0, hW0⟩ : ∃ W0, ((w.alloc (.cells #[.string x, .slice ah nh ch, .int .i64 sk, .int .i64 nw, .int .i64 am, .slice aa na ca, .int .i64 rm, .slice ar nr cr] 47)).alloc (.cells #[.string ⟨#[]⟩, .slice none 0 0, .int .i64 0, .int .i64 0, .int .i64 0, .slice none 0 0, .int .i64 0, .slice none 0 0] 29)).alloc (.cells #[.string x, .slice none 0 0, .int .i64 0, .int .i64 0, .int .i64 0, .slice none 0 0, .int .i64 0, .slice none 0 0] 29) = W0 := ⟨_, rfl⟩
  rw [hW0] at b1 b2 b3 HB0 HSZ
  have H1 := hid b1
  have H2 := hid b2
  have H3 := hid b3
  clear b1 b2 b3
  obtain ⟨B, hB⟩ : ∃ B, w.heap.size = B := ⟨_, rfl⟩
  have HBB := hid hB
  rw [hB] at H1 H2 H3 HSZ
  obtain ⟨⟨x0, x1, x2, x3, x4, x5, x6, x7⟩, _⟩ := g_box8f H1.out
  go_enter Tryz.func19, Tryz.ntmps19
  go_wp2_with fail
  refine (CH.out _ HB0.out).mono ?_
  rintro e w1 ⟨gh, cuh, hgh, rfl, hG1, hR1, hb1⟩
  clear hW0 x0 x1 x2 x3 x4 x5 x6 x7
  have HB1 := hid (bb HB0.out hb1)
  have K1 := hid (u_blk_below H1.out hb1)
  have K2 := hid (u_blk_below H2.out hb1)
  have K3 := hid (u_blk_below H3.out hb1)
  have hgB : B + 3 ≤ gh := by have := HSZ.out; omega
  have HG1 := hid hG1
  have HR1 := hid hR1
  have HGL := hid (lt_of_heap hG1)
  clear hG1 hR1 hb1 hgh HB0 H1 H2 H3 HSZ CH
  obtain ⟨⟨x0, x1, x2, x3, x4, x5, x6, x7⟩, _⟩ := g_box8f K1.out
  obtain ⟨⟨z0, z1, z2, z3, z4, z5, z6, z7⟩, zf⟩ := g_box8f K3.out
  have zf1 := zf 1
  have zf2 := zf 2
  have zf3 := zf 3
  clear zf
  have HC1 := hid (show Below w.heap.size w (((w1.setCell ⟨B + 2, 1, none⟩ (.slice (some ⟨gh, 0, none⟩) nh nh)).setCell ⟨B + 2, 2, none⟩ (.int .i64 sk)).setCell ⟨B + 2, 3, none⟩ (.int .i64 nw)) from by
    iterate 3 refine Below.setCell ?_ (by rw [hB]; show B ≤ B + 2; omega) _
    exact HB1.out)
  have other1 : ∀ b, ¬ b = B + 2 → (((w1.setCell ⟨B + 2, 1, none⟩ (.slice (some ⟨gh, 0, none⟩) nh nh)).setCell ⟨B + 2, 2, none⟩ (.int .i64 sk)).setCell ⟨B + 2, 3, none⟩ (.int .i64 nw)).heap[b]? = w1.heap[b]? := fun b hne => by
    iterate 3 refine (Below.heap_setCell _ _ _ _ (by show ¬ _ = _; omega)).trans ?_
    rfl
  have D1 := hid ((other1 B (by omega)).trans K1.out)
  have D2 := hid ((other1 (B + 1) (by omega)).trans K2.out)
  have DG := hid ((other1 gh (by omega)).trans HG1.out)
  have D3 := hid (show (((w1.setCell ⟨B + 2, 1, none⟩ (.slice (some ⟨gh, 0, none⟩) nh nh)).setCell ⟨B + 2, 2, none⟩ (.int .i64 sk)).setCell ⟨B + 2, 3, none⟩ (.int .i64 nw)).heap[B + 2]? = some (.cells #[.string x, .slice (some ⟨gh, 0, none⟩) nh nh, .int .i64 sk, .int .i64 nw, .int .i64 0, .slice none 0 0, .int .i64 0, .slice none 0 0] 29 (0, 0)) from (u_heap_set (u_heap_set (u_heap_set K3.out _) _) _).trans rfl)
  have HSZ1 := hid (show (((w1.setCell ⟨B + 2, 1, none⟩ (.slice (some ⟨gh, 0, none⟩) nh nh)).setCell ⟨B + 2, 2, none⟩ (.int .i64 sk)).setCell ⟨B + 2, 3, none⟩ (.int .i64 nw)).heap.size = w1.heap.size by simp)
  clear other1
  go_wp2_with fail
  clear x0 x1 x2 x3 x4 x5 x6 x7 z0 z1 z2 z3 z4 z5 z6 z7 zf1 zf2 zf3
  obtain ⟨W1, hW1⟩ : ∃ W, (((w1.setCell ⟨B + 2, 1, none⟩ (.slice (some ⟨gh, 0, none⟩) nh nh)).setCell ⟨B + 2, 2, none⟩ (.int .i64 sk)).setCell ⟨B + 2, 3, none⟩ (.int .i64 nw)) = W := ⟨_, rfl⟩
  rw [hW1] at HC1 D1 D2 D3 DG HSZ1
  try rw [hW1]
  refine (CA.out _ HC1.out).mono ?_
  rintro e w2 ⟨ga, cua, hga, rfl, hG2, hR2, hb2⟩
  have HB2 := hid (bb HC1.out hb2)
  have E1 := hid (u_blk_below D1.out hb2)
  have E2 := hid (u_blk_below D2.out hb2)
  have E3 := hid (u_blk_below D3.out hb2)
  have EG := hid (u_blk_below DG.out hb2)
  have hgA : gh < ga := by have := HGL.out; have := HSZ1.out; omega
  have HG2 := hid hG2
  have HR2 := hid hR2
  have HGL2 := hid (lt_of_heap hG2)
  clear hG2 hR2 hb2 hga HC1 D1 D2 D3 DG HSZ1 CA hW1 HB1 K1 K2 K3 HG1 HGL
  obtain ⟨⟨x0, x1, x2, x3, x4, x5, x6, x7⟩, _⟩ := g_box8f E1.out
  obtain ⟨⟨z0, z1, z2, z3, z4, z5, z6, z7⟩, zf⟩ := g_box8f E3.out
  have zf4 := zf 4
  have zf5 := zf 5
  clear zf
  have HC2 := hid (show Below w.heap.size w ((w2.setCell ⟨B + 2, 4, none⟩ (.int .i64 am)).setCell ⟨B + 2, 5, none⟩ (.slice (some ⟨ga, 0, none⟩) na na)) from by
    iterate 2 refine Below.setCell ?_ (by rw [hB]; show B ≤ B + 2; omega) _
    exact HB2.out)
  have other2 : ∀ b, ¬ b = B + 2 → ((w2.setCell ⟨B + 2, 4, none⟩ (.int .i64 am)).setCell ⟨B + 2, 5, none⟩ (.slice (some ⟨ga, 0, none⟩) na na)).heap[b]? = w2.heap[b]? := fun b hne => by
    iterate 2 refine (Below.heap_setCell _ _ _ _ (by show ¬ _ = _; omega)).trans ?_
    rfl
  have D1 := hid ((other2 B (by omega)).trans E1.out)
  have D2 := hid ((other2 (B + 1) (by omega)).trans E2.out)
  have DG := hid ((other2 gh (by omega)).trans EG.out)
  have DA := hid ((other2 ga (by omega)).trans HG2.out)
  have D3 := hid (show ((w2.setCell ⟨B + 2, 4, none⟩ (.int .i64 am)).setCell ⟨B + 2, 5, none⟩ (.slice (some ⟨ga, 0, none⟩) na na)).heap[B + 2]? = some (.cells #[.string x, .slice (some ⟨gh, 0, none⟩) nh nh, .int .i64 sk, .int .i64 nw, .int .i64 am, .slice (some ⟨ga, 0, none⟩) na na, .int .i64 0, .slice none 0 0] 29 (0, 0)) from (u_heap_set (u_heap_set E3.out _) _).trans rfl)
  have HSZ2 := hid (show ((w2.setCell ⟨B + 2, 4, none⟩ (.int .i64 am)).setCell ⟨B + 2, 5, none⟩ (.slice (some ⟨ga, 0, none⟩) na na)).heap.size = w2.heap.size by simp)
  clear other2
  go_wp2_with fail
  clear x0 x1 x2 x3 x4 x5 x6 x7 z0 z1 z2 z3 z4 z5 z6 z7 zf4 zf5
  obtain ⟨W2, hW2⟩ : ∃ W, ((w2.setCell ⟨B + 2, 4, none⟩ (.int .i64 am)).setCell ⟨B + 2, 5, none⟩ (.slice (some ⟨ga, 0, none⟩) na na)) = W := ⟨_, rfl⟩
  rw [hW2] at HC2 D1 D2 D3 DG DA HSZ2
  try rw [hW2]
  refine (CR.out _ HC2.out).mono ?_
  rintro e w3 ⟨gr, cur, hgr, rfl, hG3, hR3, hb3⟩
  have HB3 := hid (bb HC2.out hb3)
  have E2 := hid (u_blk_below D2.out hb3)
  have E3 := hid (u_blk_below D3.out hb3)
  have EG := hid (u_blk_below DG.out hb3)
  have EA := hid (u_blk_below DA.out hb3)
  have hgR : ga < gr := by have := HGL2.out; have := HSZ2.out; omega
  have HG3 := hid hG3
  have HR3 := hid hR3
  clear hG3 hR3 hb3 hgr HC2 D1 D2 D3 DG DA HSZ2 CR hW2 HB2 E1 HG2 HGL2
  obtain ⟨⟨y0, y1, y2, y3, y4, y5, y6, y7⟩, yf⟩ := g_box8f E2.out
  obtain ⟨⟨z0, z1, z2, z3, z4, z5, z6, z7⟩, zf⟩ := g_box8f E3.out
  have zf6 := zf 6
  have zf7 := zf 7
  have yf0 := yf 0
  have yf1 := yf 1
  have yf2 := yf 2
  have yf3 := yf 3
  have yf4 := yf 4
  have yf5 := yf 5
  have yf6 := yf 6
  have yf7 := yf 7
  clear zf yf
  go_wp2_with fail
  refine bodyPost_ret (v := .agg #[.string x, .slice (some ⟨gh, 0, none⟩) nh nh, .int .i64 sk, .int .i64 nw, .int .i64 am, .slice (some ⟨ga, 0, none⟩) na na, .int .i64 rm, .slice (some ⟨gr, 0, none⟩) nr nr]) (by simp [results, Tryz.results19, go_sem, y0, y1, y2, y3, y4, y5, y6, y7, z0, z1, z2, z3, z4, z5, z6, z7]) rfl ⟨gh, ga, gr, rfl, ⟨by omega, hgA, hgR, ⟨cuh, ?_, HR1.out⟩, ⟨cua, ?_, HR2.out⟩, cur, ?_, HR3.out⟩, ?_⟩
  · iterate 10 refine (Below.heap_setCell _ _ _ _ (by simp; omega)).trans ?_
    exact EG.out
  · iterate 10 refine (Below.heap_setCell _ _ _ _ (by simp; omega)).trans ?_
    exact EA.out
  · iterate 10 refine (Below.heap_setCell _ _ _ _ (by simp; omega)).trans ?_
    exact HG3.out
  · iterate 10 refine Below.setCell ?_ (by simp; try omega) _
    exact HBB.out ▸ HB3.out

end Go.Proofs.YtgdfeicojgnoaaaGreatDoor

namespace Go.Proofs.YtgdfeicojgnoaaaGreatDoor
open Go.RowKit
set_option linter.unusedVariables false
set_option linter.unusedSimpArgs false

set_option maxHeartbeats 2000000 in
theorem cCopiedRow (x : ByteArray) (y : Int) (w : World) (hx : x.size ≤ 1048576) :
    Calls Tryz.prog 100 #[.agg #[.string x, .int .i64 y]] w fun e w' => e = .returned (.agg #[.string x, .int .i64 y]) ∧ Below w.heap.size w w' := by
  have C := hid (fun wx => c_strings_Clone x wx hx)
  obtain ⟨b1, b2⟩ := u_heap2 w (.cells #[.string x, .int .i64 y] 83) (.cells #[.string ⟨#[]⟩, .int .i64 0] 83)
  have HB0 := hid (((Below.refl w.heap.size w).alloc (Nat.le_refl _) (.cells #[.string x, .int .i64 y] 83)).alloc (by simp) (.cells #[.string ⟨#[]⟩, .int .i64 0] 83))
  obtain ⟨W0, hW0⟩ : ∃ W0, ((w.alloc (.cells #[.string x, .int .i64 y] 83)).alloc (.cells #[.string ⟨#[]⟩, .int .i64 0] 83)) = W0 := ⟨_, rfl⟩
  rw [hW0] at b1 b2 HB0
  obtain ⟨B, hB⟩ : ∃ B, w.heap.size = B := ⟨_, rfl⟩
  rw [hB] at b1 b2
  have HM1 := hid b1
  have HM2 := hid b2
  clear b1 b2
  obtain ⟨⟨f0, f1⟩, f2, f3⟩ := u_box2f HM1.out
  obtain ⟨⟨k0, k1⟩, k2, k3⟩ := u_box2f HM2.out
  go_enter Tryz.func100, Tryz.ntmps100
  go_wp2_with fail
  have HBc := hid ((Below.refl W0.heap.size W0).drew)
  go_region_law (first
    | (go_simp; go_at_call 97; refine (C.out _).mono ?_; rintro e w6 ⟨rfl, hb6⟩; have HB6 := hid (HBc.out.trans hb6); obtain ⟨⟨r0, r1⟩, r2, r3⟩ := u_box2f (u_blk_below HM1.out HB6.out); obtain ⟨⟨s0, s1⟩, s2, s3⟩ := u_box2f (u_blk_below HM2.out HB6.out); clear hb6))
  all_goals
    have HD := hid ((show B + 1 < W0.heap.size from lt_of_heap HM2.out))
    have HW := hid ((HB0.out.trans (HB6.out.mono HB0.out.size)))
    go_wp2_with fail
    refine bodyPost_ret (v := .agg #[.string x, .int .i64 y]) (by simp [results, Tryz.results100, go_sem, r0, r1, s0, s1]) rfl ⟨rfl, ?_⟩
    iterate 2 refine Below.setCell ?_ (show w.heap.size ≤ B + 1 by omega) _
    exact HW.out

set_option maxRecDepth 8000 in
set_option maxHeartbeats 8000000 in
theorem cCopiedRows (a : Option Addr) (cap : Nat) (l : List Ro) (w : World) (hR : RoRow w a l) (hz : RoSz 1048576 l) (hn : l.length ≤ 100000) :
    Calls Tryz.prog 107 #[.slice a l.length cap] w fun e w' => ∃ v, e = .returned v ∧ w'.ownsRow w.heap.size 83 2 v l.length (roC l) ∧ Below w.heap.size w w' := by
  obtain ⟨i0, hi, hz0, hz1, hz2⟩ := info_parts infoRoW
  have HI := hid (And.intro hi (And.intro hz0 (And.intro hz1 hz2)))
  have HR := hid hR
  have HZ := hid hz
  clear hR hz hi hz0 hz1 hz2
  obtain ⟨n, hnn⟩ : ∃ n, l.length = n := ⟨_, rfl⟩
  have HN := hid hnn
  rw [hnn] at hn ⊢
  clear hnn
  go_enter Tryz.func107, Tryz.ntmps107
  go_wp2_with fail
  go_loopw [3, 8] (fun v k wr => ∃ i : Nat, k = .int .i64 (i : Int) ∧ i ≤ n ∧ Hid (wr.ownsRow w.heap.size 83 2 v i (roC (l.take i))) ∧ Hid (Below w.heap.size w wr)) (fun _ k _ => n - (intOf k).toNat)
  case atStart => exact ⟨0, rfl, Nat.zero_le _, World.ownsRow_nil _ _ _ _, Below.refl _ _⟩
  case round =>
    obtain ⟨i, rfl, hin, HO, HB⟩ := hrel
    by_cases hlt : i < n
    case neg =>
      have hie : i = n := by omega
      subst hie
      have HO2 := HO.out
      rw [List.take_of_length_le (by rw [HN.out]; exact Nat.le_refl _)] at HO2
      have HOA := hid HO2
      clear HO2 HO
      go_wp2_with fail
      go_ret
      exact ⟨_, rfl, HOA.out, HB.out⟩
    have his : i < l.length := by rw [HN.out]; exact hlt
    have hinn : (i : Int) < (n : Int) := by omega
    obtain ⟨b, o, rfl, hb, c1, c2⟩ := (HR.out.below HB.out) i his
    have HX := hid (show roC (l.take (i + 1)) = roC (l.take i) ++ roC [⟨l[i].id, l[i].til⟩] by rw [take_snocN his, roC_app])
    have C := hid (fun w => cCopiedRow l[i].id l[i].til w (HZ.out _ (List.getElem_mem his)))
    generalize l[i].id = x at *
    generalize l[i].til = y at *
    have HB0 := hid (HB.out.alloc HB.out.size (.cells #[.string x, .int .i64 y] 83))
    have HO0 := hid (HO.out.alloc (.cells #[.string x, .int .i64 y] 83))
    have hws := HB.out.size
    obtain ⟨a5, c5, hv5⟩ := u_own_len HO.out
    subst hv5
    clear HO
    go_wp2_with fail
    refine (C.out _).mono ?_
    rintro e w2 ⟨rfl, hb2⟩
    have HB2 := hid (bb HB0.out hb2)
    have HO2 := hid (ownsRow_below HO0.out hb2)
    have HB3 := hid ((Below.refl w2.heap.size w2).alloc (Nat.le_refl _) (.cells #[.string x, .int .i64 y] 83))
    have HO3 := hid (ownsRow_below HO2.out HB3.out)
    have HN3 := hid (u_Rd.new w2 83 2 (roC [⟨x, y⟩]) 1 rfl)
    have HB4 := hid (bb HB2.out HB3.out)
    clear hb2 C HO0 HO2 HB0
    go_wp2_with (at_builtin; refine wpList_append_own_at _ rfl _ _ 25 rfl w.heap.size 83 i0 _ 2 24 Tryz.underlying25 HI.out.1 HI.out.2.1 HI.out.2.2.1 HI.out.2.2.2 rfl (by decide) _ i (roC (l.take i)) rfl HO3.out ⟨w2.heap.size, 0, none⟩ 1 1 (roC [⟨x, y⟩]) rfl rfl (fun j u hj => by obtain ⟨b', o', c', e', _, _, h4⟩ := HN3.out.at_; cases e'; rw [u_add_plainW]; exact h4 j u hj) (roC_one _) (by unfold maxLen; omega) (by omega) HB4.out.size ?_)
    intro v' w4 ho4 hg4 _ _
    have HO4 := hid ho4
    have HB5 := hid (HB4.out.grown hg4 HB4.out.size (fun k e => (HO3.out.lt k e).1))
    clear ho4 hg4 HN3 HO3
    go_wp2_with fail
    go_roundw
    case rel => exact ⟨i + 1, by go_num, by omega, by rw [HX.out]; exact HO4.out, HB5.out⟩
    case measure => simp [intOf]; omega

end Go.Proofs.YtgdfeicojgnoaaaGreatDoor
