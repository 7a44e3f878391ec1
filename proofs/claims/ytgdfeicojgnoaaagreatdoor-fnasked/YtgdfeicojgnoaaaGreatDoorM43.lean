/- The law on what is asked: whatever is drawn, it answers true. -/
import Derived.Test.YtgdfeicojgnoaaaGreatDoorM31
import Derived.Test.YtgdfeicojgnoaaaGreatDoorM32
import Derived.Test.YtgdfeicojgnoaaaGreatDoorM33
import Derived.Test.YtgdfeicojgnoaaaGreatDoorM36
import Derived.Test.YtgdfeicojgnoaaaGreatDoorM42
import Derived.Deep.RegionHeld3
namespace Go.Proofs.YtgdfeicojgnoaaaGreatDoor
open Go.RowKit
set_option linter.unusedVariables false
set_option linter.unusedSimpArgs false

/-- A gate lies in a box. -/
def HasG (w : World) (B : Nat) (g : Gt) (ah : Option Addr) (ch : Nat) (aa : Option Addr) (ca : Nat) (ar : Option Addr) (cr : Nat) : Prop :=
  w.heap[B]? = some (.cells #[.string g.name, .slice ah g.hands.length ch, .int .i64 g.skew, .int .i64 g.now, .int .i64 g.ask.most, .slice aa g.ask.rows.length ca, .int .i64 g.hrd.most, .slice ar g.hrd.rows.length cr] 29 (0, 0)) ∧ GtRow w g ah aa ar

theorem HasG.below {w w' : World} {B : Nat} {g : Gt} {ah : Option Addr} {ch : Nat} {aa : Option Addr} {ca : Nat} {ar : Option Addr} {cr : Nat} (h : HasG w B g ah ch aa ca ar cr) (hb : Below w.heap.size w w') : HasG w' B g ah ch aa ca ar cr := ⟨u_blk_below h.1 hb, h.2.below hb⟩

theorem HasG.new {w : World} {g : Gt} {ah : Option Addr} {ch : Nat} {aa : Option Addr} {ca : Nat} {ar : Option Addr} {cr : Nat} (h : GtRow w g ah aa ar) : HasG (w.alloc (.cells #[.string g.name, .slice ah g.hands.length ch, .int .i64 g.skew, .int .i64 g.now, .int .i64 g.ask.most, .slice aa g.ask.rows.length ca, .int .i64 g.hrd.most, .slice ar g.hrd.rows.length cr] 29)) w.heap.size g ah ch aa ca ar cr := ⟨heap_alloc_new _ _, h.below ((Below.refl _ _).alloc (Nat.le_refl _) _)⟩

theorem SenA.at {a0 a1 a2 : Addr} {w : World} (h : SenA a0 a1 a2 w) : SenAt a0 a1 w := ⟨h.1.1, h.1.2.1, fun e => h.2.1.1 e.symm, h.2.2.1.1, h.2.2.1.2.1⟩

theorem GtS.sz {p n m : Nat} {g : Gt} (h : GtS p n m g) (hp : p ≤ 100) (hn : n ≤ 100) (hm : m ≤ 100) : GtSz 1048576 g := ⟨Nat.le_trans h.nm (by decide), h.hz.mono (by decide), Nat.le_trans h.hl (Nat.le_trans hp (by decide)), h.az.mono (by decide), Nat.le_trans h.al (Nat.le_trans hn (by decide)), h.rz.mono (by decide), Nat.le_trans h.rl (Nat.le_trans hm (by decide))⟩

theorem zeroG_sz : GtSz 1048576 zeroG := ⟨Nat.zero_le _, fun x hx => absurd hx List.not_mem_nil, Nat.zero_le _, fun x hx => absurd hx List.not_mem_nil, Nat.zero_le _, fun x hx => absurd hx List.not_mem_nil, Nat.zero_le _⟩

theorem tick_sz {g : Gt} {d : Int} (h : GtS 4 6 2 g) : GtSz 1048576 (tickG g d).1 := by
  have hz := h.sz (by decide) (by decide) (by decide)
  unfold tickG
  split
  · split
    · exact ⟨hz.1, hz.2.1, hz.2.2.1, fun x hx => hz.2.2.2.1 x (List.mem_filter.1 hx).1, Nat.le_trans (sweep_len _ _) hz.2.2.2.2.1, fun x hx => hz.2.2.2.2.2.1 x (List.mem_filter.1 hx).1, Nat.le_trans (sweep_len _ _) hz.2.2.2.2.2.2⟩
    · exact hz
  · exact zeroG_sz

theorem asks_sz {g : Gt} {id : ByteArray} {til : Int} (h : GtS 4 6 2 g) (hi : id.size ≤ 10) : GtSz 1048576 (asksG g id til).1 := by
  have hz := h.sz (by decide) (by decide) (by decide)
  unfold asksG
  split
  · exact ⟨hz.1, hz.2.1, hz.2.2.1, (enterT_sz h.az hi).mono (by decide), Nat.le_trans (enterT_len _ _ _) (by have := h.al; omega), hz.2.2.2.2.2.1, hz.2.2.2.2.2.2⟩
  · exact zeroG_sz

set_option maxRecDepth 16000 in
set_option maxHeartbeats 16000000 in
theorem law_asked (a : Option Addr) (len cap : Nat) (a0 a1 a2 : Addr) (w : World) (hcr : CodeRow w a len) (hS : SenA a0 a1 a2 w) :
    Calls Tryz.prog 3 #[.slice a len cap] w fun e w' => e = .returned (.bool true) ∧ Below w.heap.size w w' := by
  have HCR := hid hcr
  have HSN := hid hS
  have HB := hid (Below.refl w.heap.size w)
  clear hcr hS
  by_cases hbig : len ≤ 4096
  case neg =>
    go_enter Tryz.func3, Tryz.ntmps3
    go_wp2_with fail
    refine (cBig_yes a len cap _ hbig).mono ?_
    rintro e0 w' ⟨rfl, rfl⟩
    go_wp2_with fail
    go_ret
    exact ⟨rfl, Below.refl _ _⟩
  go_enter Tryz.func3, Tryz.ntmps3
  go_wp2_with fail
  refine (cBig_no a len cap _ hbig).mono ?_
  rintro e0 w' ⟨rfl, rfl⟩
  go_wp2_with fail
  refine (cDrawTicked a len cap _ hbig HCR.out).mono ?_
  rintro e w1 ⟨g, gh, gk, ga, gb, gr, gs, d, rfl, hro, hs, hb1⟩
  have HGS := hid hs
  unfold gtV
  have HA := hid ((Below.refl w1.heap.size w1).alloc (Nat.le_refl _) (.cells #[.string g.name, .slice gh g.hands.length gk, .int .i64 g.skew, .int .i64 g.now, .int .i64 g.ask.most, .slice ga g.ask.rows.length gb, .int .i64 g.hrd.most, .slice gr g.hrd.rows.length gs] 29))
  have HG := hid (HasG.new (w := w1) (ah := gh) (ch := gk) (aa := ga) (ca := gb) (ar := gr) (cr := gs) hro)
  replace HB := hid (bb HB.out (bb hb1 HA.out))
  replace HSN := hid (HSN.out.below (bb hb1 HA.out))
  clear HA
  obtain ⟨WG, hW⟩ : ∃ W, w1.alloc (.cells #[.string g.name, .slice gh g.hands.length gk, .int .i64 g.skew, .int .i64 g.now, .int .i64 g.ask.most, .slice ga g.ask.rows.length gb, .int .i64 g.hrd.most, .slice gr g.hrd.rows.length gs] 29) = W := ⟨_, rfl⟩
  obtain ⟨BG, hB⟩ : ∃ B, w1.heap.size = B := ⟨_, rfl⟩
  rw [hW] at HB HSN HG
  rw [hB] at HG
  clear hro hs hb1
  obtain ⟨⟨Gc0, Gc1, Gc2, Gc3, Gc4, Gc5, Gc6, Gc7⟩, _⟩ := g_box8f HG.out.1
  go_wp2_with fail
  clear hW hB Gc0 Gc1 Gc2 Gc3 Gc4 Gc5 Gc6 Gc7
  refine (cTickedI g gh gk ga gb gr gs d a0 a1 _ HSN.out.at HG.out.2 (HGS.out.sz (by decide) (by decide) (by decide))).mono ?_
  rintro e w2 ⟨xh, xk, xa, xb, xr, xs, rfl, ho, hb2⟩
  have hro := ho.row
  have HXZ := hid (tick_sz (d := d) HGS.out)
  have HT0 := hid (fun (h : gateB g = false) => tick_no (d := d) h)
  have HT1 := hid (fun (h : gateB g = true) (k : (tickG g d).2 = false) => tick_same h k)
  have HT2 := hid (fun (h : gateB g = true) (k : (tickG g d).2 = true) => tick_law h k)
  have CTS := hid (fun wx (h : GtRow wx g gh ga gr) => cTickedS g gh gk ga gb gr gs d wx h (HGS.out.sz (by decide) (by decide) (by decide)))
  obtain ⟨T, hT⟩ : ∃ T, tickG g d = T := ⟨_, rfl⟩
  rw [hT] at hro HXZ HT0 HT1 HT2 CTS ⊢
  clear hT ho
  obtain ⟨x, is⟩ := T
  simp only at hro HXZ HT0 HT1 HT2 CTS ⊢
  unfold gtV
  have HA := hid ((Below.refl w2.heap.size w2).alloc (Nat.le_refl _) (.cells #[.string x.name, .slice xh x.hands.length xk, .int .i64 x.skew, .int .i64 x.now, .int .i64 x.ask.most, .slice xa x.ask.rows.length xb, .int .i64 x.hrd.most, .slice xr x.hrd.rows.length xs] 29))
  have HX := hid (HasG.new (w := w2) (ah := xh) (ch := xk) (aa := xa) (ca := xb) (ar := xr) (cr := xs) hro)
  replace HG := hid (HG.out.below (bb hb2 HA.out))
  replace HB := hid (bb HB.out (bb hb2 HA.out))
  replace HSN := hid (HSN.out.below (bb hb2 HA.out))
  clear HA
  obtain ⟨WX, hW⟩ : ∃ W, w2.alloc (.cells #[.string x.name, .slice xh x.hands.length xk, .int .i64 x.skew, .int .i64 x.now, .int .i64 x.ask.most, .slice xa x.ask.rows.length xb, .int .i64 x.hrd.most, .slice xr x.hrd.rows.length xs] 29) = W := ⟨_, rfl⟩
  obtain ⟨BX, hB⟩ : ∃ B, w2.heap.size = B := ⟨_, rfl⟩
  rw [hW] at HB HSN HG HX
  rw [hB] at HX
  clear hro hb2
  go_wp2_with fail
  clear hW hB
  refine (cDrawAsks a len cap _ hbig (code_below HCR.out HB.out)).mono ?_
  rintro e w3 ⟨q, qh, qk, qa, qb, qr, qs, id, til, rfl, hro, hs, hi, hb3⟩
  have HQS := hid hs
  have HID := hid hi
  unfold gtV
  have HA := hid ((Below.refl w3.heap.size w3).alloc (Nat.le_refl _) (.cells #[.string q.name, .slice qh q.hands.length qk, .int .i64 q.skew, .int .i64 q.now, .int .i64 q.ask.most, .slice qa q.ask.rows.length qb, .int .i64 q.hrd.most, .slice qr q.hrd.rows.length qs] 29))
  have HQ := hid (HasG.new (w := w3) (ah := qh) (ch := qk) (aa := qa) (ca := qb) (ar := qr) (cr := qs) hro)
  replace HG := hid (HG.out.below (bb hb3 HA.out))
  replace HX := hid (HX.out.below (bb hb3 HA.out))
  replace HB := hid (bb HB.out (bb hb3 HA.out))
  replace HSN := hid (HSN.out.below (bb hb3 HA.out))
  clear HA
  obtain ⟨WQ, hW⟩ : ∃ W, w3.alloc (.cells #[.string q.name, .slice qh q.hands.length qk, .int .i64 q.skew, .int .i64 q.now, .int .i64 q.ask.most, .slice qa q.ask.rows.length qb, .int .i64 q.hrd.most, .slice qr q.hrd.rows.length qs] 29) = W := ⟨_, rfl⟩
  obtain ⟨BQ, hB⟩ : ∃ B, w3.heap.size = B := ⟨_, rfl⟩
  rw [hW] at HB HSN HG HX HQ
  rw [hB] at HQ
  clear hro hs hb3 hi
  obtain ⟨⟨Qc0, Qc1, Qc2, Qc3, Qc4, Qc5, Qc6, Qc7⟩, _⟩ := g_box8f HQ.out.1
  go_wp2_with fail
  clear hW hB Qc0 Qc1 Qc2 Qc3 Qc4 Qc5 Qc6 Qc7
  have hi10 := Nat.le_trans HID.out (show 10 ≤ 1048576 by decide)
  refine (cAsksI q qh qk qa qb qr qs id til a0 a1 a2 _ HSN.out HQ.out.2 (HQS.out.sz (by decide) (by decide) (by decide)) hi10).mono ?_
  rintro e w4 ⟨yh, yk, ya, yb, yr, ys, rfl, ho, hb4⟩
  have hro := ho.row
  have HYZ := hid (asks_sz (til := til) HQS.out HID.out)
  have HAL := hid (ask_law q id til)
  have CAS := hid (fun wx (h : GtRow wx q qh qa qr) => cAsksS q qh qk qa qb qr qs id til wx h (HQS.out.sz (by decide) (by decide) (by decide)) hi10)
  obtain ⟨A, hA⟩ : ∃ A, asksG q id til = A := ⟨_, rfl⟩
  rw [hA] at hro HYZ HAL CAS ⊢
  clear hA ho hi10
  obtain ⟨y, k⟩ := A
  simp only at hro HYZ HAL CAS ⊢
  unfold gtV
  have HA := hid ((Below.refl w4.heap.size w4).alloc (Nat.le_refl _) (.cells #[.string y.name, .slice yh y.hands.length yk, .int .i64 y.skew, .int .i64 y.now, .int .i64 y.ask.most, .slice ya y.ask.rows.length yb, .int .i64 y.hrd.most, .slice yr y.hrd.rows.length ys] 29))
  have HY := hid (HasG.new (w := w4) (ah := yh) (ch := yk) (aa := ya) (ca := yb) (ar := yr) (cr := ys) hro)
  replace HG := hid (HG.out.below (bb hb4 HA.out))
  replace HX := hid (HX.out.below (bb hb4 HA.out))
  replace HQ := hid (HQ.out.below (bb hb4 HA.out))
  replace HB := hid (bb HB.out (bb hb4 HA.out))
  replace HSN := hid (HSN.out.below (bb hb4 HA.out))
  clear HA
  obtain ⟨WY, hW⟩ : ∃ W, w4.alloc (.cells #[.string y.name, .slice yh y.hands.length yk, .int .i64 y.skew, .int .i64 y.now, .int .i64 y.ask.most, .slice ya y.ask.rows.length yb, .int .i64 y.hrd.most, .slice yr y.hrd.rows.length ys] 29) = W := ⟨_, rfl⟩
  obtain ⟨BY, hB⟩ : ∃ B, w4.heap.size = B := ⟨_, rfl⟩
  rw [hW] at HB HSN HG HX HQ HY
  rw [hB] at HY
  clear hro hb4
  obtain ⟨⟨Gc0, Gc1, Gc2, Gc3, Gc4, Gc5, Gc6, Gc7⟩, _⟩ := g_box8f HG.out.1
  go_wp2_with fail
  clear hW hB Gc0 Gc1 Gc2 Gc3 Gc4 Gc5 Gc6 Gc7
  refine (CTS.out _ HG.out.2).mono ?_
  rintro e w5 ⟨zh, zk, za, zb, zr, zs, rfl, ho, hb5⟩
  have hro := ho.row
  clear ho CTS
  unfold gtV
  have HA := hid ((Below.refl w5.heap.size w5).alloc (Nat.le_refl _) (.cells #[.string x.name, .slice zh x.hands.length zk, .int .i64 x.skew, .int .i64 x.now, .int .i64 x.ask.most, .slice za x.ask.rows.length zb, .int .i64 x.hrd.most, .slice zr x.hrd.rows.length zs] 29))
  have HZ := hid (HasG.new (w := w5) (ah := zh) (ch := zk) (aa := za) (ca := zb) (ar := zr) (cr := zs) hro)
  replace HG := hid (HG.out.below (bb hb5 HA.out))
  replace HX := hid (HX.out.below (bb hb5 HA.out))
  replace HQ := hid (HQ.out.below (bb hb5 HA.out))
  replace HY := hid (HY.out.below (bb hb5 HA.out))
  replace HB := hid (bb HB.out (bb hb5 HA.out))
  replace HSN := hid (HSN.out.below (bb hb5 HA.out))
  clear HA
  obtain ⟨WZ, hW⟩ : ∃ W, w5.alloc (.cells #[.string x.name, .slice zh x.hands.length zk, .int .i64 x.skew, .int .i64 x.now, .int .i64 x.ask.most, .slice za x.ask.rows.length zb, .int .i64 x.hrd.most, .slice zr x.hrd.rows.length zs] 29) = W := ⟨_, rfl⟩
  obtain ⟨BZ, hB⟩ : ∃ B, w5.heap.size = B := ⟨_, rfl⟩
  rw [hW] at HB HSN HG HX HQ HY HZ
  rw [hB] at HZ
  clear hro hb5
  obtain ⟨⟨Xc0, Xc1, Xc2, Xc3, Xc4, Xc5, Xc6, Xc7⟩, _⟩ := g_box8f HX.out.1
  obtain ⟨⟨Zc0, Zc1, Zc2, Zc3, Zc4, Zc5, Zc6, Zc7⟩, _⟩ := g_box8f HZ.out.1
  have eis : (is != is) = false := by cases is <;> rfl
  go_wp2_with fail
  clear hW hB Xc0 Xc1 Xc2 Xc3 Xc4 Xc5 Xc6 Xc7 Zc0 Zc1 Zc2 Zc3 Zc4 Zc5 Zc6 Zc7
  refine (cLikeG x xh xk xa xb xr xs zh zk za zb zr zs _ HX.out.2 HZ.out.2 HXZ.out.2.2.2.2.1 HXZ.out.2.2.2.2.2.2 HXZ.out.2.2.1).mono ?_
  rintro e w6 ⟨rfl, hb6⟩
  replace HG := hid (HG.out.below hb6)
  replace HX := hid (HX.out.below hb6)
  replace HQ := hid (HQ.out.below hb6)
  replace HY := hid (HY.out.below hb6)
  replace HZ := hid (HZ.out.below hb6)
  replace HB := hid (bb HB.out hb6)
  replace HSN := hid (HSN.out.below hb6)
  clear hb6
  obtain ⟨⟨Qc0, Qc1, Qc2, Qc3, Qc4, Qc5, Qc6, Qc7⟩, _⟩ := g_box8f HQ.out.1
  go_wp2_with fail
  clear eis Qc0 Qc1 Qc2 Qc3 Qc4 Qc5 Qc6 Qc7
  refine (CAS.out _ HQ.out.2).mono ?_
  rintro e w7 ⟨vh, vk, va, vb, vr, vs, rfl, ho, hb7⟩
  have hro := ho.row
  clear ho CAS
  unfold gtV
  have HA := hid ((Below.refl w7.heap.size w7).alloc (Nat.le_refl _) (.cells #[.string y.name, .slice vh y.hands.length vk, .int .i64 y.skew, .int .i64 y.now, .int .i64 y.ask.most, .slice va y.ask.rows.length vb, .int .i64 y.hrd.most, .slice vr y.hrd.rows.length vs] 29))
  have HV := hid (HasG.new (w := w7) (ah := vh) (ch := vk) (aa := va) (ca := vb) (ar := vr) (cr := vs) hro)
  replace HG := hid (HG.out.below (bb hb7 HA.out))
  replace HX := hid (HX.out.below (bb hb7 HA.out))
  replace HQ := hid (HQ.out.below (bb hb7 HA.out))
  replace HY := hid (HY.out.below (bb hb7 HA.out))
  replace HZ := hid (HZ.out.below (bb hb7 HA.out))
  replace HB := hid (bb HB.out (bb hb7 HA.out))
  replace HSN := hid (HSN.out.below (bb hb7 HA.out))
  clear HA
  obtain ⟨WV, hW⟩ : ∃ W, w7.alloc (.cells #[.string y.name, .slice vh y.hands.length vk, .int .i64 y.skew, .int .i64 y.now, .int .i64 y.ask.most, .slice va y.ask.rows.length vb, .int .i64 y.hrd.most, .slice vr y.hrd.rows.length vs] 29) = W := ⟨_, rfl⟩
  obtain ⟨BV, hB⟩ : ∃ B, w7.heap.size = B := ⟨_, rfl⟩
  rw [hW] at HB HSN HG HX HQ HY HZ HV
  rw [hB] at HV
  clear hro hb7
  obtain ⟨⟨Yc0, Yc1, Yc2, Yc3, Yc4, Yc5, Yc6, Yc7⟩, _⟩ := g_box8f HY.out.1
  obtain ⟨⟨Vc0, Vc1, Vc2, Vc3, Vc4, Vc5, Vc6, Vc7⟩, _⟩ := g_box8f HV.out.1
  have ek : (k != k) = false := by simp
  go_wp2_with fail
  clear hW hB Yc0 Yc1 Yc2 Yc3 Yc4 Yc5 Yc6 Yc7 Vc0 Vc1 Vc2 Vc3 Vc4 Vc5 Vc6 Vc7
  refine (cLikeG y yh yk ya yb yr ys vh vk va vb vr vs _ HY.out.2 HV.out.2 HYZ.out.2.2.2.2.1 HYZ.out.2.2.2.2.2.2 HYZ.out.2.2.1).mono ?_
  rintro e w8 ⟨rfl, hb8⟩
  replace HG := hid (HG.out.below hb8)
  replace HX := hid (HX.out.below hb8)
  replace HQ := hid (HQ.out.below hb8)
  replace HY := hid (HY.out.below hb8)
  replace HZ := hid (HZ.out.below hb8)
  replace HV := hid (HV.out.below hb8)
  replace HB := hid (bb HB.out hb8)
  replace HSN := hid (HSN.out.below hb8)
  clear hb8 ek
  clear HCR HSN HV HZ
  rcases HAL.out with ⟨rfl, hh, hgy⟩ | ⟨rfl, rfl⟩ | ⟨rfl | rfl, hy⟩
  case' inl =>
    clear HAL
    obtain ⟨⟨Yc0, Yc1, Yc2, Yc3, Yc4, Yc5, Yc6, Yc7⟩, _⟩ := g_box8f HY.out.1
    go_wp2_with fail
    clear Yc0 Yc1 Yc2 Yc3 Yc4 Yc5 Yc6 Yc7
    refine (cHoldsI y.ask ya yb id _ HY.out.2.2.1 HYZ.out.2.2.2.1 HYZ.out.2.2.2.2.1).mono ?_
    rintro e w9 ⟨rfl, hb9⟩
    rw [hh]
    replace HG := hid (HG.out.below hb9)
    replace HX := hid (HX.out.below hb9)
    replace HQ := hid (HQ.out.below hb9)
    replace HY := hid (HY.out.below hb9)
    replace HB := hid (bb HB.out hb9)
    clear hb9
    obtain ⟨⟨Yc0, Yc1, Yc2, Yc3, Yc4, Yc5, Yc6, Yc7⟩, _⟩ := g_box8f HY.out.1
    go_wp2_with fail
    clear Yc0 Yc1 Yc2 Yc3 Yc4 Yc5 Yc6 Yc7
    refine (cGateOkI y yh yk ya yb yr ys _ HY.out.2 HYZ.out).mono ?_
    rintro e wE ⟨rfl, hbE⟩
    rw [hgy]
    replace HG := hid (HG.out.below hbE)
    replace HX := hid (HX.out.below hbE)
    replace HQ := hid (HQ.out.below hbE)
    replace HY := hid (HY.out.below hbE)
    replace HB := hid (bb HB.out hbE)
    clear hbE
    go_upto_region 15 with fail
  case' inr.inl =>
    clear HAL
    obtain ⟨⟨Yc0, Yc1, Yc2, Yc3, Yc4, Yc5, Yc6, Yc7⟩, _⟩ := g_box8f HY.out.1
    go_wp2_with fail
    clear Yc0 Yc1 Yc2 Yc3 Yc4 Yc5 Yc6 Yc7
    refine (cLikeG zeroG yh yk ya yb yr ys none 0 none 0 none 0 _ HY.out.2 (show GtRow _ zeroG none none none from ⟨fun j hj => absurd hj (Nat.not_lt_zero j), RoRow.nil _ _, RoRow.nil _ _⟩) zeroG_sz.2.2.2.2.1 zeroG_sz.2.2.2.2.2.2 zeroG_sz.2.2.1).mono ?_
    rintro e wE ⟨rfl, hbE⟩
    replace HG := hid (HG.out.below hbE)
    replace HX := hid (HX.out.below hbE)
    replace HQ := hid (HQ.out.below hbE)
    replace HY := hid (HY.out.below hbE)
    replace HB := hid (bb HB.out hbE)
    clear hbE
    go_upto_region 15 with fail
  case' inr.inr.inl =>
    clear HAL
    obtain rfl := hy.symm
    obtain ⟨⟨Yc0, Yc1, Yc2, Yc3, Yc4, Yc5, Yc6, Yc7⟩, _⟩ := g_box8f HY.out.1
    obtain ⟨⟨Qc0, Qc1, Qc2, Qc3, Qc4, Qc5, Qc6, Qc7⟩, _⟩ := g_box8f HQ.out.1
    go_wp2_with fail
    clear Yc0 Yc1 Yc2 Yc3 Yc4 Yc5 Yc6 Yc7 Qc0 Qc1 Qc2 Qc3 Qc4 Qc5 Qc6 Qc7
    refine (cLikeG q yh yk ya yb yr ys qh qk qa qb qr qs _ HY.out.2 HQ.out.2 HYZ.out.2.2.2.2.1 HYZ.out.2.2.2.2.2.2 HYZ.out.2.2.1).mono ?_
    rintro e wE ⟨rfl, hbE⟩
    replace HG := hid (HG.out.below hbE)
    replace HX := hid (HX.out.below hbE)
    replace HQ := hid (HQ.out.below hbE)
    replace HY := hid (HY.out.below hbE)
    replace HB := hid (bb HB.out hbE)
    clear hbE
    go_upto_region 15 with fail
  case' inr.inr.inr =>
    clear HAL
    obtain rfl := hy.symm
    obtain ⟨⟨Yc0, Yc1, Yc2, Yc3, Yc4, Yc5, Yc6, Yc7⟩, _⟩ := g_box8f HY.out.1
    obtain ⟨⟨Qc0, Qc1, Qc2, Qc3, Qc4, Qc5, Qc6, Qc7⟩, _⟩ := g_box8f HQ.out.1
    go_wp2_with fail
    clear Yc0 Yc1 Yc2 Yc3 Yc4 Yc5 Yc6 Yc7 Qc0 Qc1 Qc2 Qc3 Qc4 Qc5 Qc6 Qc7
    refine (cLikeG q yh yk ya yb yr ys qh qk qa qb qr qs _ HY.out.2 HQ.out.2 HYZ.out.2.2.2.2.1 HYZ.out.2.2.2.2.2.2 HYZ.out.2.2.1).mono ?_
    rintro e wE ⟨rfl, hbE⟩
    replace HG := hid (HG.out.below hbE)
    replace HX := hid (HX.out.below hbE)
    replace HQ := hid (HQ.out.below hbE)
    replace HY := hid (HY.out.below hbE)
    replace HB := hid (bb HB.out hbE)
    clear hbE
    go_upto_region 15 with fail
  all_goals
    obtain ⟨⟨Gc0, Gc1, Gc2, Gc3, Gc4, Gc5, Gc6, Gc7⟩, _⟩ := g_box8f HG.out.1
    clear HY HQ HYZ HQS HID
    go_wp2_with fail
    clear Gc0 Gc1 Gc2 Gc3 Gc4 Gc5 Gc6 Gc7
    refine (cGateOkS g gh gk ga gb gr gs _ HG.out.2 (HGS.out.sz (by decide) (by decide) (by decide))).mono ?_
    rintro e w11 ⟨rfl, hb11⟩
    replace HG := hid (HG.out.below hb11)
    replace HX := hid (HX.out.below hb11)
    replace HB := hid (bb HB.out hb11)
    clear hb11
    cases hgb : gateB g with
    | false =>
      obtain ⟨rfl, rfl⟩ := Prod.mk.inj (HT0.out hgb)
      clear HT0 HT1 HT2
      obtain ⟨⟨Xc0, Xc1, Xc2, Xc3, Xc4, Xc5, Xc6, Xc7⟩, _⟩ := g_box8f HX.out.1
      go_wp2_with fail
      clear Xc0 Xc1 Xc2 Xc3 Xc4 Xc5 Xc6 Xc7
      refine (cLikeG zeroG xh xk xa xb xr xs none 0 none 0 none 0 _ HX.out.2 (show GtRow _ zeroG none none none from ⟨fun j hj => absurd hj (Nat.not_lt_zero j), RoRow.nil _ _, RoRow.nil _ _⟩) zeroG_sz.2.2.2.2.1 zeroG_sz.2.2.2.2.2.2 zeroG_sz.2.2.1).mono ?_
      rintro e w12 ⟨rfl, hb12⟩
      have HE := hid (bb HB.out hb12)
      go_wp2_with fail
      go_ret
      exact ⟨rfl, HE.out⟩
    | true =>
      clear HT0
      cases is with
      | false =>
        obtain rfl := (HT1.out hgb rfl).symm
        clear HT1 HT2
        obtain ⟨⟨Xc0, Xc1, Xc2, Xc3, Xc4, Xc5, Xc6, Xc7⟩, _⟩ := g_box8f HX.out.1
        obtain ⟨⟨Gc0, Gc1, Gc2, Gc3, Gc4, Gc5, Gc6, Gc7⟩, _⟩ := g_box8f HG.out.1
        go_wp2_with fail
        clear Xc0 Xc1 Xc2 Xc3 Xc4 Xc5 Xc6 Xc7 Gc0 Gc1 Gc2 Gc3 Gc4 Gc5 Gc6 Gc7
        refine (cLikeG g xh xk xa xb xr xs gh gk ga gb gr gs _ HX.out.2 HG.out.2 HXZ.out.2.2.2.2.1 HXZ.out.2.2.2.2.2.2 HXZ.out.2.2.1).mono ?_
        rintro e w12 ⟨rfl, hb12⟩
        have HE := hid (bb HB.out hb12)
        go_wp2_with fail
        go_ret
        exact ⟨rfl, HE.out⟩
      | true =>
        obtain ⟨t1, t2, t3, t4⟩ := HT2.out hgb rfl
        clear HT1 HT2
        have GZ := HGS.out.sz (show 4 ≤ 100 by decide) (show 6 ≤ 100 by decide) (show 2 ≤ 100 by decide)
        have CG := hid (fun wx (h : Below w11.heap.size w11 wx) => cGateOkI x xh xk xa xb xr xs wx (HX.out.2.below h) HXZ.out)
        rw [t1] at CG
        have CSA := hid (fun wx (h : Below w11.heap.size w11 wx) => cSweptS g.ask ga gb x.now wx (HG.out.2.2.1.below h) GZ.2.2.2.1 GZ.2.2.2.2.1)
        have CSR := hid (fun wx (h : Below w11.heap.size w11 wx) => cSweptS g.hrd gr gs x.now wx (HG.out.2.2.2.below h) GZ.2.2.2.2.2.1 GZ.2.2.2.2.2.2)
        rw [← t3] at CSA
        rw [← t4] at CSR
        have CLA := hid (fun (a' : Option Addr) (c' : Nat) wx (h : Below w11.heap.size w11 wx) (hr : RoRow wx a' x.ask.rows) => cLike x.ask xa a' xb c' wx (HX.out.2.2.1.below h) hr HXZ.out.2.2.2.2.1)
        have CLR := hid (fun (a' : Option Addr) (c' : Nat) wx (h : Below w11.heap.size w11 wx) (hr : RoRow wx a' x.hrd.rows) => cLike x.hrd xr a' xs c' wx (HX.out.2.2.2.below h) hr HXZ.out.2.2.2.2.2.2)
        unfold gtV at CG
        unfold tbV at CSA CSR CLA CLR
        have HBc := hid ((Below.refl w11.heap.size w11).drew)
        have HSX := hid (show ∀ w', Below w11.heap.size w11 w' → w'.cell? ⟨BX, 0, none⟩ = some (.string x.name) ∧ w'.cell? ⟨BX, 1, none⟩ = some (.slice xh x.hands.length xk) ∧ w'.cell? ⟨BX, 2, none⟩ = some (.int .i64 x.skew) ∧ w'.cell? ⟨BX, 3, none⟩ = some (.int .i64 x.now) ∧ w'.cell? ⟨BX, 4, none⟩ = some (.int .i64 x.ask.most) ∧ w'.cell? ⟨BX, 5, none⟩ = some (.slice xa x.ask.rows.length xb) ∧ w'.cell? ⟨BX, 6, none⟩ = some (.int .i64 x.hrd.most) ∧ w'.cell? ⟨BX, 7, none⟩ = some (.slice xr x.hrd.rows.length xs) ∧ w'.cell? ⟨BG, 0, none⟩ = some (.string g.name) ∧ w'.cell? ⟨BG, 1, none⟩ = some (.slice gh g.hands.length gk) ∧ w'.cell? ⟨BG, 2, none⟩ = some (.int .i64 g.skew) ∧ w'.cell? ⟨BG, 3, none⟩ = some (.int .i64 g.now) ∧ w'.cell? ⟨BG, 4, none⟩ = some (.int .i64 g.ask.most) ∧ w'.cell? ⟨BG, 5, none⟩ = some (.slice ga g.ask.rows.length gb) ∧ w'.cell? ⟨BG, 6, none⟩ = some (.int .i64 g.hrd.most) ∧ w'.cell? ⟨BG, 7, none⟩ = some (.slice gr g.hrd.rows.length gs) from fun w' hb => by
          obtain ⟨q0, q1, q2, q3, q4, q5, q6, q7⟩ := (g_box8f (HX.out.below hb).1).1
          exact ⟨q0, q1, q2, q3, q4, q5, q6, q7, (g_box8f (HG.out.below hb).1).1⟩)
        have hge : decide (g.now ≤ x.now) = true := decide_eq_true t2
        clear t1 t3 t4 GZ HXZ HGS
        obtain ⟨⟨Xc0, Xc1, Xc2, Xc3, Xc4, Xc5, Xc6, Xc7⟩, _⟩ := g_box8f HX.out.1
        obtain ⟨⟨Gc0, Gc1, Gc2, Gc3, Gc4, Gc5, Gc6, Gc7⟩, _⟩ := g_box8f HG.out.1
        go_wp2_with fail
        clear Xc0 Xc1 Xc2 Xc3 Xc4 Xc5 Xc6 Xc7 Gc0 Gc1 Gc2 Gc3 Gc4 Gc5 Gc6 Gc7
        go_region_held3 (fun w' => w'.cell? ⟨BX, 0, none⟩ = some (.string x.name) ∧ w'.cell? ⟨BX, 1, none⟩ = some (.slice xh x.hands.length xk) ∧ w'.cell? ⟨BX, 2, none⟩ = some (.int .i64 x.skew) ∧ w'.cell? ⟨BX, 3, none⟩ = some (.int .i64 x.now) ∧ w'.cell? ⟨BX, 4, none⟩ = some (.int .i64 x.ask.most) ∧ w'.cell? ⟨BX, 5, none⟩ = some (.slice xa x.ask.rows.length xb) ∧ w'.cell? ⟨BX, 6, none⟩ = some (.int .i64 x.hrd.most) ∧ w'.cell? ⟨BX, 7, none⟩ = some (.slice xr x.hrd.rows.length xs) ∧ w'.cell? ⟨BG, 0, none⟩ = some (.string g.name) ∧ w'.cell? ⟨BG, 1, none⟩ = some (.slice gh g.hands.length gk) ∧ w'.cell? ⟨BG, 2, none⟩ = some (.int .i64 g.skew) ∧ w'.cell? ⟨BG, 3, none⟩ = some (.int .i64 g.now) ∧ w'.cell? ⟨BG, 4, none⟩ = some (.int .i64 g.ask.most) ∧ w'.cell? ⟨BG, 5, none⟩ = some (.slice ga g.ask.rows.length gb) ∧ w'.cell? ⟨BG, 6, none⟩ = some (.int .i64 g.hrd.most) ∧ w'.cell? ⟨BG, 7, none⟩ = some (.slice gr g.hrd.rows.length gs)) (first | with_reducible exact HSX.out _ HBc.out)
          (first
            | (go_at_call 14; with_reducible refine (CG.out _ HBc.out).mono ?_; rintro e w12 ⟨rfl, hb12⟩; replace HBc := hid (bb HBc.out hb12); clear hb12)
            | (go_at_call 17; with_reducible refine (CSA.out _ HBc.out).mono ?_; rintro e w13 ⟨a13, c13, rfl, hr13, hb13⟩; have HR13 := hid hr13; replace HBc := hid (bb HBc.out hb13); clear hb13 hr13)
            | (go_at_call 16; with_reducible refine (CLA.out a13 c13 _ HBc.out HR13.out).mono ?_; rintro e w14 ⟨rfl, hb14⟩; replace HBc := hid (bb HBc.out hb14); clear hb14)
            | (go_at_call 17; with_reducible refine (CSR.out _ HBc.out).mono ?_; rintro e w15 ⟨a15, c15, rfl, hr15, hb15⟩; have HR15 := hid hr15; replace HBc := hid (bb HBc.out hb15); clear hb15 hr15)
            | (go_at_call 16; with_reducible refine (CLR.out a15 c15 _ HBc.out HR15.out).mono ?_; rintro e w16 ⟨rfl, hb16⟩; replace HBc := hid (bb HBc.out hb16); clear hb16))
        all_goals
          have HE := hid (bb HB.out HBc.out)
          go_wp2_with fail
          go_ret
          exact ⟨rfl, HE.out⟩

end Go.Proofs.YtgdfeicojgnoaaaGreatDoor
