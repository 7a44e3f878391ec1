/- Contracts of what the exact laws call on gates: sized, copied, compared. -/
import Derived.Test.YtdgppdjjmpjgkaaAImp
import Derived.Test.YtdgppdjjmpjgkaaULaw
import Derived.Test.YtdgppdjjmpjgkaaPQuiet
import Derived.Test.YtdgppdjjmpjgkaaUSpecB
namespace Go.Proofs.Ytdgppdjjmpjgkaa
open Go.RowKit
set_option linter.unusedVariables false
set_option linter.unusedSimpArgs false

set_option maxHeartbeats 1000000 in
theorem cSzHand (x : ByteArray) (n e d : Int) (L : Nat) (w : World) (hL : L ≤ 1048576) (hx : x.size ≤ maxLen) :
    Calls Try.prog 31 #[.agg #[.string x, .int .i64 n, .int .i64 e, .int .i64 d], .int .i64 L] w fun e w' => ∃ r : Int, e = .returned (.int .i64 r) ∧ (r = -1 ∨ 0 ≤ r ∧ r = L - x.size) ∧ Below w.heap.size w w' := by
  unfold maxLen at hx
  by_cases h1 : (L : Int) - x.size < 0
  · go_enter Try.func31, Try.ntmps31
    go_wp2
    go_ret
    exact ⟨-1, rfl, .inl rfl, (Below.refl _ _).alloc (Nat.le_refl _) _⟩
  · go_enter Try.func31, Try.ntmps31
    go_wp2
    go_ret
    exact ⟨(L : Int) - x.size, rfl, .inr ⟨by omega, rfl⟩, (Below.refl _ _).alloc (Nat.le_refl _) _⟩

set_option maxHeartbeats 2000000 in
theorem cSzHandS (a : Option Addr) (cap : Nat) (l : List Hd) (L : Nat) (w : World) (hR : HdRow w a l) (hz : HdSz maxLen l) (hn : l.length ≤ maxLen) (hL : L ≤ 1048576) :
    Calls Try.prog 10 #[.slice a l.length cap, .int .i64 L] w fun e w' => ∃ r : Int, e = .returned (.int .i64 r) ∧ (r = -1 ∨ 0 ≤ r ∧ r ≤ L ∧ l.length ≤ L ∧ HdSz L l) ∧ Below w.heap.size w w' := by
  have HR := hid hR
  have HZ := hid hz
  clear hR hz
  unfold maxLen at hn
  obtain ⟨n, hnn⟩ : ∃ n, l.length = n := ⟨_, rfl⟩
  have HN := hid hnn
  rw [hnn] at hn ⊢
  clear hnn
  by_cases h1 : (L : Int) - n < 0
  · go_enter Try.func10, Try.ntmps10
    go_wp2
    go_ret
    exact ⟨-1, rfl, .inl rfl, Below.refl _ _⟩
  · go_enter Try.func10, Try.ntmps10
    go_wp2
    go_loopw [1, 5] (fun v k wr => ∃ (i M : Nat), k = .int .i64 (i : Int) ∧ i ≤ n ∧ v = .int .i64 (M : Int) ∧ M + n ≤ L ∧ Hid (HdSz L (l.take i)) ∧ Hid (Below w.heap.size w wr)) (fun _ k _ => n - (intOf k).toNat)
    case atStart => exact ⟨0, L - n, rfl, Nat.zero_le _, by go_num, by omega, fun s hs => by simp at hs, Below.refl _ _⟩
    case round =>
      obtain ⟨i, M, rfl, hi, rfl, hM, HA, HB⟩ := hrel
      by_cases hlt : i < n
      · have his : i < l.length := by rw [HN.out]; exact hlt
        obtain ⟨b, o, rfl, hb, c0, c1, c2, c3⟩ := HR.out.below HB.out i his
        have hin : (i : Int) < (n : Int) := by omega
        have HT := hid (take_snocN his)
        have z1 := HZ.out _ (List.getElem_mem his)
        have C := fun w => cSzHand l[i].iss l[i].n l[i].e l[i].d M w (by omega) z1
        have HE : Hid (∀ (x : ByteArray), l[i].iss = x → x.size ≤ L → HdSz L (l.take (i + 1))) := by
          intro x hx h1
          rw [HT.out]
          intro s hs
          rcases List.mem_append.1 hs with h | h
          · exact HA.out s h
          · rw [List.mem_singleton] at h
            subst h
            rw [hx]
            exact h1
        obtain ⟨x, hx⟩ : ∃ x, l[i].iss = x := ⟨_, rfl⟩
        have HX := hid hx
        rw [hx] at c0 C
        generalize l[i].n = kn at *
        generalize l[i].e = ke at *
        generalize l[i].d = kd at *
        clear hx z1
        go_wp2_with fail
        refine (C _).mono ?_
        rintro e w2 ⟨r, rfl, hr, hb2⟩
        have HB2 := hid (bb HB.out hb2)
        clear hb2 C
        rcases hr with rfl | ⟨h0, hr⟩
        · go_wp2_with fail
          go_ret
          exact ⟨-1, rfl, .inl rfl, HB2.out⟩
        · obtain ⟨R, rfl⟩ : ∃ R : Nat, r = R := ⟨r.toNat, by omega⟩
          go_wp2_with fail
          go_roundw
          case rel => exact ⟨i + 1, R, by go_num, by omega, by first | rfl | rw [← hr], by omega, HE.out x HX.out (by omega), HB2.out⟩
          case measure => simp [intOf]; omega
      · have hie : i = n := by omega
        subst hie
        have h2 := HA.out
        rw [List.take_of_length_le (by rw [HN.out]; exact Nat.le_refl _)] at h2
        have H2 := hid h2
        clear h2
        go_wp2_with fail
        go_ret
        exact ⟨M, rfl, .inr ⟨by omega, by omega, by omega, H2.out⟩, HB.out⟩

theorem cSzTableL (t : Tb) (a : Option Addr) (cap L : Nat) (w : World) (hR : RoRow w a t.rows) (hz : RoSz maxLen t.rows) (hn : t.rows.length ≤ maxLen) (hL : L ≤ 1048576) :
    Calls Try.prog 18 #[tbV t a cap, .int .i64 L] w fun e w' => ∃ r : Int, e = .returned (.int .i64 r) ∧ (r = -1 ∨ 0 ≤ r ∧ r ≤ L ∧ t.rows.length ≤ L ∧ RoSz L t.rows) ∧ Below w.heap.size w w' := by
  have C := hid (fun wx (h : Below w.heap.size w wx) => cSzRowS a cap t.rows L wx (hR.below h) hz hn hL)
  have HB0 := hid ((Below.refl w.heap.size w).alloc (Nat.le_refl _) (.cells #[.int .i64 t.most, .slice a t.rows.length cap] 25))
  obtain ⟨F, hF⟩ : ∃ F : Prop, (t.rows.length ≤ L ∧ RoSz L t.rows) = F := ⟨_, rfl⟩
  unfold tbV
  rw [hF] at C ⊢
  generalize t.rows.length = n at *
  generalize t.most = m at *
  clear hR hz hF
  go_enter Try.func18, Try.ntmps18
  go_wp2_with fail
  refine (C.out _ HB0.out).mono ?_
  rintro e w1 ⟨r, rfl, hr, hb1⟩
  have HB1 := hid (bb HB0.out hb1)
  have HR2 := hid hr
  clear hb1 hr C
  by_cases h0 : r < 0
  · go_wp2_with fail
    go_ret
    exact ⟨-1, rfl, .inl rfl, HB1.out⟩
  · go_wp2_with fail
    go_ret
    exact ⟨r, rfl, HR2.out, HB1.out⟩

set_option maxRecDepth 8000 in
set_option maxHeartbeats 4000000 in
theorem cSzGate (g : Gt) (ah : Option Addr) (ch : Nat) (aa : Option Addr) (ca : Nat) (ar : Option Addr) (cr : Nat) (w : World) (hR : GtRow w g ah aa ar) (hz : GtSz maxLen g) :
    Calls Try.prog 5 #[gtV g ah ch aa ca ar cr, .int .i64 1048576] w fun e w' => ∃ r : Int, e = .returned (.int .i64 r) ∧ (r = -1 ∨ 0 ≤ r ∧ GtSz 1048576 g) ∧ Below w.heap.size w w' := by
  obtain ⟨z1, z2, z3, z4, z5, z6, z7⟩ := hz
  have CH := hid (fun (L : Nat) wx (h : Below w.heap.size w wx) (hL : L ≤ 1048576) => cSzHandS ah ch g.hands L wx (hR.1.below h) z2 z3 hL)
  have CA := hid (fun (L : Nat) wx (h : Below w.heap.size w wx) (hL : L ≤ 1048576) => cSzTableL g.ask aa ca L wx (hR.2.1.below h) z4 z5 hL)
  have CR := hid (fun (L : Nat) wx (h : Below w.heap.size w wx) (hL : L ≤ 1048576) => cSzTableL g.hrd ar cr L wx (hR.2.2.below h) z6 z7 hL)
  have HX0 := hid (GtBox.new w g.name (.slice ah g.hands.length ch) g.skew g.now g.ask.most (.slice aa g.ask.rows.length ca) g.hrd.most (.slice ar g.hrd.rows.length cr) 27)
  have HB0 := hid ((Below.refl w.heap.size w).alloc (Nat.le_refl _) (.cells #[.string g.name, .slice ah g.hands.length ch, .int .i64 g.skew, .int .i64 g.now, .int .i64 g.ask.most, .slice aa g.ask.rows.length ca, .int .i64 g.hrd.most, .slice ar g.hrd.rows.length cr] 27))
  have HFIN := hid (fun (L1 L2 L3 : Nat) (h0 : g.name.size ≤ 1048576) (l1 : L1 ≤ 1048576) (l2 : L2 ≤ 1048576) (l3 : L3 ≤ 1048576) (h1 : g.hands.length ≤ L1 ∧ HdSz L1 g.hands) (h2 : g.ask.rows.length ≤ L2 ∧ RoSz L2 g.ask.rows) (h3 : g.hrd.rows.length ≤ L3 ∧ RoSz L3 g.hrd.rows) => (show GtSz 1048576 g from ⟨h0, h1.2.mono l1, Nat.le_trans h1.1 l1, h2.2.mono l2, Nat.le_trans h2.1 l2, h3.2.mono l3, Nat.le_trans h3.1 l3⟩))
  unfold maxLen at z1
  obtain ⟨F, hF⟩ : ∃ F : Prop, GtSz 1048576 g = F := ⟨_, rfl⟩
  rw [hF] at HFIN ⊢
  obtain ⟨P1, hP1⟩ : ∃ P : Nat → Prop, (fun L => g.hands.length ≤ L ∧ HdSz L g.hands) = P := ⟨_, rfl⟩
  obtain ⟨P2, hP2⟩ : ∃ P : Nat → Prop, (fun L => g.ask.rows.length ≤ L ∧ RoSz L g.ask.rows) = P := ⟨_, rfl⟩
  obtain ⟨P3, hP3⟩ : ∃ P : Nat → Prop, (fun L => g.hrd.rows.length ≤ L ∧ RoSz L g.hrd.rows) = P := ⟨_, rfl⟩
  have e1 : ∀ L, (g.hands.length ≤ L ∧ HdSz L g.hands) = P1 L := fun L => congrFun hP1 L
  have e2 : ∀ L, (g.ask.rows.length ≤ L ∧ RoSz L g.ask.rows) = P2 L := fun L => congrFun hP2 L
  have e3 : ∀ L, (g.hrd.rows.length ≤ L ∧ RoSz L g.hrd.rows) = P3 L := fun L => congrFun hP3 L
  simp only [e1, e2, e3] at CH CA CR HFIN
  unfold gtV
  unfold tbV at CA CR
  clear hF hP1 hP2 hP3 e1 e2 e3 hR z2 z3 z4 z5 z6 z7
  generalize g.name = x at *
  generalize g.hands.length = nh at *
  generalize g.skew = sk at *
  generalize g.now = nw at *
  generalize g.ask.most = am at *
  generalize g.ask.rows.length = na at *
  generalize g.hrd.most = rm at *
  generalize g.hrd.rows.length = nr at *
  obtain ⟨W0, hW0⟩ : ∃ W0, w.alloc (.cells #[.string x, .slice ah nh ch, .int .i64 sk, .int .i64 nw, .int .i64 am, .slice aa na ca, .int .i64 rm, .slice ar nr cr] 27) = W0 := ⟨_, rfl⟩
  rw [hW0] at HX0 HB0
  obtain ⟨B, hB⟩ : ∃ B, w.heap.size = B := ⟨_, rfl⟩
  rw [hB] at HX0
  obtain ⟨f0, f1, f2, f3, f4, f5, f6, f7⟩ := HX0.out.cells
  by_cases h1 : x.size ≤ 1048576
  case neg =>
    have h1' : (1048576 : Int) - (x.size : Int) < 0 := by omega
    go_enter Try.func5, Try.ntmps5
    go_wp2_with fail
    go_ret
    exact ⟨-1, rfl, .inl rfl, hB ▸ HB0.out⟩
  obtain ⟨L0, hL0⟩ : ∃ L0 : Nat, (1048576 : Int) - (x.size : Int) = (L0 : Int) := ⟨(1048576 - x.size), by omega⟩
  have h0 : ¬ (L0 : Int) < 0 := by omega
  have hL1 : L0 ≤ 1048576 := by omega
  have hw : IntKind.i64.wrap (L0 : Int) = (L0 : Int) := IntWalk.i64_in _ (by omega)
  have H1 := hid h1
  clear h1
  go_enter Try.func5, Try.ntmps5
  go_wp2_with fail
  clear hW0 f0 f1 f2 f3 f4 f5 f6 f7 hL0
  refine (CH.out L0 _ HB0.out hL1).mono ?_
  rintro e w1 ⟨r, rfl, hr, hb⟩
  have HB1 := hid (bb HB0.out hb)
  have HX1 := hid (HX0.out.below hb)
  clear hb CH
  rcases hr with rfl | ⟨h01, hl1, hq1⟩
  · go_wp2_with fail
    go_ret
    exact ⟨-1, rfl, .inl rfl, HB1.out⟩
  obtain ⟨L1, rfl⟩ : ∃ L : Nat, r = (L : Int) := ⟨r.toNat, by omega⟩
  have hL2 : L1 ≤ 1048576 := by omega
  have HQ1 := hid hq1
  clear hq1 h01
  have hn1 : ¬ (L1 : Int) < 0 := by omega
  obtain ⟨f0, f1, f2, f3, f4, f5, f6, f7⟩ := HX1.out.cells
  go_wp2_with fail
  clear f0 f1 f2 f3 f4 f5 f6 f7
  refine (CA.out L1 _ HB1.out hL2).mono ?_
  rintro e w2 ⟨r, rfl, hr, hb⟩
  have HB2 := hid (bb HB1.out hb)
  have HX2 := hid (HX1.out.below hb)
  clear hb CA
  rcases hr with rfl | ⟨h02, hl2, hq2⟩
  · go_wp2_with fail
    go_ret
    exact ⟨-1, rfl, .inl rfl, HB2.out⟩
  obtain ⟨L2, rfl⟩ : ∃ L : Nat, r = (L : Int) := ⟨r.toNat, by omega⟩
  have hL3 : L2 ≤ 1048576 := by omega
  have HQ2 := hid hq2
  clear hq2 h02
  have hn2 : ¬ (L2 : Int) < 0 := by omega
  obtain ⟨f0, f1, f2, f3, f4, f5, f6, f7⟩ := HX2.out.cells
  go_wp2_with fail
  clear f0 f1 f2 f3 f4 f5 f6 f7
  refine (CR.out L2 _ HB2.out hL3).mono ?_
  rintro e w3 ⟨r, rfl, hr, hb⟩
  have HB3 := hid (bb HB2.out hb)
  have HX3 := hid (HX2.out.below hb)
  clear hb CR
  rcases hr with rfl | ⟨h03, hl3, hq3⟩
  · go_wp2_with fail
    go_ret
    exact ⟨-1, rfl, .inl rfl, HB3.out⟩
  obtain ⟨L3, rfl⟩ : ∃ L : Nat, r = (L : Int) := ⟨r.toNat, by omega⟩
  have hL4 : L3 ≤ 1048576 := by omega
  have HQ3 := hid hq3
  clear hq3 h03
  have hn3 : ¬ (L3 : Int) < 0 := by omega
  obtain ⟨f0, f1, f2, f3, f4, f5, f6, f7⟩ := HX3.out.cells
  go_wp2_with fail
  clear f0 f1 f2 f3 f4 f5 f6 f7
  go_ret
  exact ⟨_, rfl, .inr ⟨by omega, HFIN.out L0 L1 L2 H1.out hL1 hL2 hL3 HQ1.out HQ2.out HQ3.out⟩, HB3.out⟩

theorem cEqHand (x : ByteArray) (n e d : Int) (w : World) :
    Calls Try.prog 36 #[.agg #[.string x, .int .i64 n, .int .i64 e, .int .i64 d], .agg #[.string x, .int .i64 n, .int .i64 e, .int .i64 d]] w fun r w' => r = .returned (.bool true) ∧ Below w.heap.size w w' := by
  have C := hid (fun wx => g_cEqKey n e d wx)
  have HB0 := hid (((Below.refl w.heap.size w).alloc (Nat.le_refl _) (.cells #[.string x, .int .i64 n, .int .i64 e, .int .i64 d] 51)).alloc (by simp) (.cells #[.string x, .int .i64 n, .int .i64 e, .int .i64 d] 51))
  go_enter Try.func36, Try.ntmps36
  go_wp2_with fail
  refine (C.out _).mono ?_
  rintro r w1 ⟨rfl, hb1⟩
  have HB1 := hid (bb HB0.out hb1)
  clear hb1
  go_wp2_with fail
  go_ret
  exact ⟨rfl, HB1.out⟩

theorem g_pair_bw {W : World} {b o : Nat} {v0 v1 v2 v3 : Value} (hb : b < W.heap.size) (h0 : W.cell? ⟨b, o, none⟩ = some v0) (h1 : W.cell? ⟨b, o + 1, none⟩ = some v1) (h2 : W.cell? ⟨b, o + 2, none⟩ = some v2) (h3 : W.cell? ⟨b, o + 3, none⟩ = some v3) :
    (∀ p : BW W, p.w.cell? ⟨b, o, none⟩ = some v0) ∧ (∀ p : BW W, p.w.cell? ⟨b, o + 1, none⟩ = some v1) ∧ (∀ p : BW W, p.w.cell? ⟨b, o + 2, none⟩ = some v2) ∧ (∀ p : BW W, p.w.cell? ⟨b, o + 3, none⟩ = some v3) :=
  ⟨(pair_bw hb h0 h1).1, (pair_bw hb h0 h1).2, (pair_bw hb h2 h3).1, (pair_bw hb h2 h3).2⟩

set_option maxHeartbeats 2000000 in
theorem cEqHandS (a c : Option Addr) (cap cap2 : Nat) (l : List Hd) (w : World) (hR : HdRow w a l) (hT : HdRow w c l) (hn : l.length ≤ 1048576) :
    Calls Try.prog 14 #[.slice a l.length cap, .slice c l.length cap2] w fun e w' => e = .returned (.bool true) ∧ Below w.heap.size w w' := by
  have HR := hid hR
  have HT := hid hT
  clear hR hT
  obtain ⟨n, hnn⟩ : ∃ n, l.length = n := ⟨_, rfl⟩
  have HN := hid hnn
  rw [hnn] at hn ⊢
  clear hnn
  go_enter Try.func14, Try.ntmps14
  go_wp2
  go_loopw [5] (fun k wr => ∃ i : Nat, k = .int .i64 (i : Int) ∧ i ≤ n ∧ Hid (Below w.heap.size w wr)) (fun k _ => n - (intOf k).toNat)
  case atStart => exact ⟨0, rfl, Nat.zero_le _, Below.refl _ _⟩
  case round =>
    obtain ⟨i, rfl, hi, HB⟩ := hrel
    by_cases hlt : i < n
    · have his : i < l.length := by rw [HN.out]; exact hlt
      have hin : (i : Int) < (n : Int) := by omega
      obtain ⟨b, o, rfl, hb, c0, c1, c2, c3⟩ := HR.out.below HB.out i his
      obtain ⟨b2, o2, rfl, hb', k0, k1, k2, k3⟩ := HT.out.below HB.out i his
      have C := fun w => cEqHand l[i].iss l[i].n l[i].e l[i].d w
      generalize l[i].iss = x at *
      generalize l[i].n = kn at *
      generalize l[i].e = ke at *
      generalize l[i].d = kd at *
      have HNB := hid (bw_any wr)
      obtain ⟨d0, d1, d2, d3⟩ := g_pair_bw hb c0 c1 c2 c3
      obtain ⟨j0, j1, j2, j3⟩ := g_pair_bw hb' k0 k1 k2 k3
      clear c0 c1 c2 c3 k0 k1 k2 k3
      go_wp2_with fail
      haveI := HNB.out
      refine wp_region_below (by kernel_rfl) (by kernel_rfl) (Below.refl wr.heap.size wr) ?_
      repeat (go_big_quiet_step ((go_at_call 36; exact calls_bw _ (C _))))
      refine wpQuiet_nil ?_
      intro wq hw'
      obtain ⟨⟨wz, hwq⟩, hw''⟩ := hw'
      subst hw''
      have HB2 := hid (bb HB.out hwq)
      clear C d0 d1 d2 d3 j0 j1 j2 j3
      go_wp2_with fail
      go_roundw
      case rel => exact ⟨i + 1, by go_num, by omega, HB2.out⟩
      case measure => simp [intOf]; omega
    · have hie : i = n := by omega
      subst hie
      go_wp2_with fail
      go_ret
      exact ⟨rfl, HB.out⟩

set_option maxRecDepth 8000 in
set_option maxHeartbeats 4000000 in
theorem cEqGate (g : Gt) (ah bh : Option Addr) (ch dh : Nat) (aa ba : Option Addr) (ca da : Nat) (ar br : Option Addr) (cr dr : Nat) (w : World) (hR : GtRow w g ah aa ar) (hS : GtRow w g bh ba br) (hz : GtSz 1048576 g) :
    Calls Try.prog 9 #[gtV g ah ch aa ca ar cr, gtV g bh dh ba da br dr] w fun e w' => e = .returned (.bool true) ∧ Below w.heap.size w w' := by
  obtain ⟨z1, z2, z3, z4, z5, z6, z7⟩ := hz
  have CH := hid (fun wx (h : Below w.heap.size w wx) => cEqHandS ah bh ch dh g.hands wx (hR.1.below h) (hS.1.below h) z3)
  have CA := hid (fun wx (h : Below w.heap.size w wx) => cEqTable g.ask aa ba ca da wx (hR.2.1.below h) (hS.2.1.below h) z4 z5)
  have CR := hid (fun wx (h : Below w.heap.size w wx) => cEqTable g.hrd ar br cr dr wx (hR.2.2.below h) (hS.2.2.below h) z6 z7)
  unfold gtV
  unfold tbV at CA CR
  clear hR hS z1 z2 z3 z4 z5 z6 z7
  generalize g.name = x at *
  generalize g.hands.length = nh at *
  generalize g.skew = sk at *
  generalize g.now = nw at *
  generalize g.ask.most = am at *
  generalize g.ask.rows.length = na at *
  generalize g.hrd.most = rm at *
  generalize g.hrd.rows.length = nr at *
  obtain ⟨o1, ho1⟩ : ∃ o, Obj.cells #[.string x, .slice ah nh ch, .int .i64 sk, .int .i64 nw, .int .i64 am, .slice aa na ca, .int .i64 rm, .slice ar nr cr] 35 (0, 0) = o := ⟨_, rfl⟩
  obtain ⟨o2, ho2⟩ : ∃ o, Obj.cells #[.string x, .slice bh nh dh, .int .i64 sk, .int .i64 nw, .int .i64 am, .slice ba na da, .int .i64 rm, .slice br nr dr] 35 (0, 0) = o := ⟨_, rfl⟩
  have HX0 := hid (show GtBox ((w.alloc o1).alloc o2) w.heap.size x (.slice ah nh ch) sk nw am (.slice aa na ca) rm (.slice ar nr cr) from GtBox.of (T := 35) (by rw [(u_heap2 w o1 o2).1, ho1]))
  have HY0 := hid (show GtBox ((w.alloc o1).alloc o2) (w.heap.size + 1) x (.slice bh nh dh) sk nw am (.slice ba na da) rm (.slice br nr dr) from GtBox.of (T := 35) (by rw [(u_heap2 w o1 o2).2, ho2]))
  have HB0 := hid (((Below.refl w.heap.size w).alloc (Nat.le_refl _) o1).alloc (by simp) o2)
  rw [← ho1, ← ho2] at HX0 HY0 HB0
  clear ho1 ho2 o1 o2
  obtain ⟨W0, hW0⟩ : ∃ W0, (w.alloc (.cells #[.string x, .slice ah nh ch, .int .i64 sk, .int .i64 nw, .int .i64 am, .slice aa na ca, .int .i64 rm, .slice ar nr cr] 35)).alloc (.cells #[.string x, .slice bh nh dh, .int .i64 sk, .int .i64 nw, .int .i64 am, .slice ba na da, .int .i64 rm, .slice br nr dr] 35) = W0 := ⟨_, rfl⟩
  rw [hW0] at HX0 HY0 HB0
  obtain ⟨B, hB⟩ : ∃ B, w.heap.size = B := ⟨_, rfl⟩
  rw [hB] at HX0 HY0
  have e2 : (sk != sk) = false := by simp
  have e3 : (nw != nw) = false := by simp
  obtain ⟨f0, f1, f2, f3, f4, f5, f6, f7⟩ := HX0.out.cells
  obtain ⟨y0, y1, y2, y3, y4, y5, y6, y7⟩ := HY0.out.cells
  go_enter Try.func9, Try.ntmps9
  go_wp2_with fail
  clear hW0
  refine (CH.out _ HB0.out).mono ?_
  rintro e w1 ⟨rfl, hb⟩
  have HB1 := hid (bb HB0.out hb)
  have HX1 := hid (HX0.out.below hb)
  have HY1 := hid (HY0.out.below hb)
  clear hb f0 f1 f2 f3 f4 f5 f6 f7 y0 y1 y2 y3 y4 y5 y6 y7
  obtain ⟨f0, f1, f2, f3, f4, f5, f6, f7⟩ := HX1.out.cells
  obtain ⟨y0, y1, y2, y3, y4, y5, y6, y7⟩ := HY1.out.cells
  go_wp2_with fail
  refine (CA.out _ HB1.out).mono ?_
  rintro e w2 ⟨rfl, hb⟩
  have HB2 := hid (bb HB1.out hb)
  have HX2 := hid (HX1.out.below hb)
  have HY2 := hid (HY1.out.below hb)
  clear hb f0 f1 f2 f3 f4 f5 f6 f7 y0 y1 y2 y3 y4 y5 y6 y7
  obtain ⟨f0, f1, f2, f3, f4, f5, f6, f7⟩ := HX2.out.cells
  obtain ⟨y0, y1, y2, y3, y4, y5, y6, y7⟩ := HY2.out.cells
  go_wp2_with fail
  refine (CR.out _ HB2.out).mono ?_
  rintro e w3 ⟨rfl, hb⟩
  have HB3 := hid (bb HB2.out hb)
  clear hb f0 f1 f2 f3 f4 f5 f6 f7 y0 y1 y2 y3 y4 y5 y6 y7
  go_wp2_with fail
  go_ret
  exact ⟨rfl, hB ▸ HB3.out⟩

end Go.Proofs.Ytdgppdjjmpjgkaa
