/- Two tables alike: what the laws' likeTable says of a table and itself, laid elsewhere. Two gates alike: what the laws' likeGate says of a gate and itself, laid elsewhere. What Asks tells. -/
import Derived.Test.YtgdfeicojgnoaaaGreatDoorM7
import Derived.Test.YtgdfeicojgnoaaaGreatDoorM3
import Derived.Test.YtgdfeicojgnoaaaGreatDoorM5
import Derived.Test.YtgdfeicojgnoaaaGreatDoorM8
import Derived.Test.YtgdfeicojgnoaaaGreatDoorM11
import Derived.Deep.QuietTactic
import Derived.BigQuiet
namespace Go.Proofs.YtgdfeicojgnoaaaGreatDoor
open Go.RowKit
set_option linter.unusedVariables false
set_option linter.unusedSimpArgs false

set_option maxHeartbeats 4000000 in
theorem cLike (t : Tb) (a c : Option Addr) (cap cap2 : Nat) (w : World) (hR : RoRow w a t.rows) (hT : RoRow w c t.rows) (hn : t.rows.length ≤ 1048576) :
    Calls Tryz.prog 16 #[tbV t a cap, tbV t c cap2] w fun e w' => e = .returned (.bool true) ∧ Below w.heap.size w w' := by
  obtain ⟨m, l⟩ := t
  simp only at hR hT hn
  simp only [tbV]
  obtain ⟨n, hnn⟩ : ∃ n, l.length = n := ⟨_, rfl⟩
  have HN := hid hnn
  rw [hnn] at hn ⊢
  clear hnn
  have b1 := u_blk_below (heap_alloc_new w (.cells #[.int .i64 m, .slice a n cap] 27)) ((Below.refl _ (w.alloc (.cells #[.int .i64 m, .slice a n cap] 27))).alloc (Nat.le_refl _) (.cells #[.int .i64 m, .slice c n cap2] 27))
  have b2 := heap_alloc_new (w.alloc (.cells #[.int .i64 m, .slice a n cap] 27)) (.cells #[.int .i64 m, .slice c n cap2] 27)
  have HB0 := hid (((Below.refl w.heap.size w).alloc (Nat.le_refl _) (.cells #[.int .i64 m, .slice a n cap] 27)).alloc (by simp) (.cells #[.int .i64 m, .slice c n cap2] 27))
  have HR := hid (hR.below HB0.out)
  have HT := hid (hT.below HB0.out)
  have H1 := hid b1
  have H2 := hid b2
  clear b1 b2 hR hT
  go_enter Tryz.func16, Tryz.ntmps16
  obtain ⟨W, hW⟩ : ∃ W, (w.alloc (.cells #[.int .i64 m, .slice a n cap] 27)).alloc (.cells #[.int .i64 m, .slice c n cap2] 27) = W := ⟨_, rfl⟩
  obtain ⟨B, hB⟩ : ∃ B, w.heap.size = B := ⟨_, rfl⟩
  have hB1 : (w.alloc (.cells #[.int .i64 m, .slice a n cap] 27)).heap.size = B + 1 := by simp [hB]
  rw [hW] at HB0 HR HT H1 H2
  rw [hB] at H1
  rw [hB1] at H2
  obtain ⟨x0, x1⟩ := u_box2c H1.out
  obtain ⟨y0, y1⟩ := u_box2c H2.out
  have e4 : (m != m) = false := by simp
  go_wp2_with fail
  clear hW hB hB1
  go_loopw [5] (fun k wr => ∃ i : Nat, k = .int .i64 (i : Int) ∧ i ≤ n ∧ Hid (Below W.heap.size W wr)) (fun k _ => n - (intOf k).toNat)
  case atStart => exact ⟨0, rfl, Nat.zero_le _, Below.refl _ _⟩
  case round =>
    clear x0 x1 y0 y1
    obtain ⟨i, rfl, hi, HB⟩ := hrel
    obtain ⟨x0, x1⟩ := u_box2c (u_blk_below H1.out HB.out)
    obtain ⟨y0, y1⟩ := u_box2c (u_blk_below H2.out HB.out)
    have hb0 : B < wr.heap.size := lt_of_heap (u_blk_below H1.out HB.out)
    have hb1 : B + 1 < wr.heap.size := lt_of_heap (u_blk_below H2.out HB.out)
    by_cases hlt : i < n
    · have his : i < l.length := by rw [HN.out]; exact hlt
      have hin : (i : Int) < (n : Int) := by omega
      obtain ⟨b, o, rfl, hb, c1, c2⟩ := (HR.out.below HB.out) i his
      obtain ⟨b2, o2, rfl, hb', k1, k2⟩ := (HT.out.below HB.out) i his
      generalize l[i].id = x at *
      generalize l[i].til = y at *
      go_wp2_with fail
      go_quiet (fail)
      go_wp2_with fail
      go_roundw
      case rel => exact ⟨i + 1, by go_num, by omega, HB.out.grown (row := none) ⟨rfl, rfl, rfl, Nat.le_refl _, fun _ _ _ => rfl⟩ HB.out.size (fun k e => by cases e)⟩
      case measure => simp [intOf]; omega
    · have hie : i = n := by omega
      subst hie
      go_wp2_with fail
      go_ret
      exact ⟨rfl, bb HB0.out HB.out⟩

end Go.Proofs.YtgdfeicojgnoaaaGreatDoor

namespace Go.Proofs.YtgdfeicojgnoaaaGreatDoor
open Go.RowKit
set_option linter.unusedVariables false
set_option linter.unusedSimpArgs false

set_option maxRecDepth 8000 in
set_option maxHeartbeats 8000000 in
theorem cLikeG (g : Gt) (ah : Option Addr) (ch : Nat) (aa : Option Addr) (ca : Nat) (ar : Option Addr) (cr : Nat) (bh : Option Addr) (dh : Nat) (ba : Option Addr) (da : Nat) (br : Option Addr) (dr : Nat) (w : World) (hR : GtRow w g ah aa ar) (hT : GtRow w g bh ba br) (hn : g.ask.rows.length ≤ 1048576) (hm : g.hrd.rows.length ≤ 1048576) (hk : g.hands.length ≤ 1048576) :
    Calls Tryz.prog 11 #[gtV g ah ch aa ca ar cr, gtV g bh dh ba da br dr] w fun e w' => e = .returned (.bool true) ∧ Below w.heap.size w w' := by
  have CA := hid (fun wx (h : Below w.heap.size w wx) => cLike g.ask aa ba ca da wx (hR.2.1.below h) (hT.2.1.below h) hn)
  have CR := hid (fun wx (h : Below w.heap.size w wx) => cLike g.hrd ar br cr dr wx (hR.2.2.below h) (hT.2.2.below h) hm)
  have HR := hid hR.1
  have HT := hid hT.1
  unfold tbV at CA CR
  unfold gtV
  clear hR hT hn hm
  obtain ⟨x, sl, sk, nw, ⟨am, la⟩, ⟨rm, lr⟩⟩ := g
  simp only at CA CR HR HT hk ⊢
  obtain ⟨n, hnn⟩ : ∃ n, sl.length = n := ⟨_, rfl⟩
  have HN := hid hnn
  rw [hnn] at hk ⊢
  clear hnn
  generalize la.length = na at *
  generalize lr.length = nr at *
  have b1 := u_blk_below (heap_alloc_new w (.cells #[.string x, .slice ah n ch, .int .i64 sk, .int .i64 nw, .int .i64 am, .slice aa na ca, .int .i64 rm, .slice ar nr cr] 29)) ((Below.refl _ (w.alloc (.cells #[.string x, .slice ah n ch, .int .i64 sk, .int .i64 nw, .int .i64 am, .slice aa na ca, .int .i64 rm, .slice ar nr cr] 29))).alloc (Nat.le_refl _) (.cells #[.string x, .slice bh n dh, .int .i64 sk, .int .i64 nw, .int .i64 am, .slice ba na da, .int .i64 rm, .slice br nr dr] 29))
  have b2 := heap_alloc_new (w.alloc (.cells #[.string x, .slice ah n ch, .int .i64 sk, .int .i64 nw, .int .i64 am, .slice aa na ca, .int .i64 rm, .slice ar nr cr] 29)) (.cells #[.string x, .slice bh n dh, .int .i64 sk, .int .i64 nw, .int .i64 am, .slice ba na da, .int .i64 rm, .slice br nr dr] 29)
  have HB0 := hid (((Below.refl w.heap.size w).alloc (Nat.le_refl _) (.cells #[.string x, .slice ah n ch, .int .i64 sk, .int .i64 nw, .int .i64 am, .slice aa na ca, .int .i64 rm, .slice ar nr cr] 29)).alloc (by simp) (.cells #[.string x, .slice bh n dh, .int .i64 sk, .int .i64 nw, .int .i64 am, .slice ba na da, .int .i64 rm, .slice br nr dr] 29))
  have H1 := hid b1
  have H2 := hid b2
  clear b1 b2
  obtain ⟨W, hW⟩ : ∃ W, (w.alloc (.cells #[.string x, .slice ah n ch, .int .i64 sk, .int .i64 nw, .int .i64 am, .slice aa na ca, .int .i64 rm, .slice ar nr cr] 29)).alloc (.cells #[.string x, .slice bh n dh, .int .i64 sk, .int .i64 nw, .int .i64 am, .slice ba na da, .int .i64 rm, .slice br nr dr] 29) = W := ⟨_, rfl⟩
  obtain ⟨B, hB⟩ : ∃ B, w.heap.size = B := ⟨_, rfl⟩
  have hB1 : (w.alloc (.cells #[.string x, .slice ah n ch, .int .i64 sk, .int .i64 nw, .int .i64 am, .slice aa na ca, .int .i64 rm, .slice ar nr cr] 29)).heap.size = B + 1 := by simp [hB]
  rw [hW] at HB0 H1 H2
  rw [hB] at H1
  rw [hB1] at H2
  obtain ⟨⟨x0, x1, x2, x3, x4, x5, x6, x7⟩, _⟩ := g_box8f H1.out
  obtain ⟨⟨y0, y1, y2, y3, y4, y5, y6, y7⟩, _⟩ := g_box8f H2.out
  have e1 : (sk != sk) = false := by simp
  have e2 : (nw != nw) = false := by simp
  have e3 : (x.toList != x.toList) = false := by simp
  go_enter Tryz.func11, Tryz.ntmps11
  go_wp2_with fail
  clear x0 x1 x2 x3 x4 x5 x6 x7 y0 y1 y2 y3 y4 y5 y6 y7
  refine (CA.out _ HB0.out).mono ?_
  rintro e w1 ⟨rfl, hb1⟩
  have HB1 := hid (bb HB0.out hb1)
  have K1 := hid (u_blk_below H1.out hb1)
  have K2 := hid (u_blk_below H2.out hb1)
  clear hb1 CA hW H1 H2 hB1
  obtain ⟨⟨x0, x1, x2, x3, x4, x5, x6, x7⟩, _⟩ := g_box8f K1.out
  obtain ⟨⟨y0, y1, y2, y3, y4, y5, y6, y7⟩, _⟩ := g_box8f K2.out
  go_wp2_with fail
  clear x0 x1 x2 x3 x4 x5 x6 x7 y0 y1 y2 y3 y4 y5 y6 y7
  refine (CR.out _ HB1.out).mono ?_
  rintro e w2 ⟨rfl, hb2⟩
  have HB2 := hid (bb HB1.out hb2)
  have J1 := hid (u_blk_below K1.out hb2)
  have J2 := hid (u_blk_below K2.out hb2)
  clear hb2 CR K1 K2 e1 e2 e3
  obtain ⟨⟨x0, x1, x2, x3, x4, x5, x6, x7⟩, _⟩ := g_box8f J1.out
  obtain ⟨⟨y0, y1, y2, y3, y4, y5, y6, y7⟩, _⟩ := g_box8f J2.out
  go_wp2_with fail
  go_loopw [5] (fun k wr => ∃ i : Nat, k = .int .i64 (i : Int) ∧ i ≤ n ∧ Hid (Below w2.heap.size w2 wr)) (fun k _ => n - (intOf k).toNat)
  case atStart => exact ⟨0, rfl, Nat.zero_le _, Below.refl _ _⟩
  case round =>
    clear x0 x1 x2 x3 x4 x5 x6 x7 y0 y1 y2 y3 y4 y5 y6 y7
    obtain ⟨i, rfl, hi, HB⟩ := hrel
    obtain ⟨⟨x0, x1, x2, x3, x4, x5, x6, x7⟩, _⟩ := g_box8f (u_blk_below J1.out HB.out)
    obtain ⟨⟨y0, y1, y2, y3, y4, y5, y6, y7⟩, _⟩ := g_box8f (u_blk_below J2.out HB.out)
    by_cases hlt : i < n
    · have his : i < sl.length := by rw [HN.out]; exact hlt
      have hin : (i : Int) < (n : Int) := by omega
      obtain ⟨b, o, rfl, hb, c0, c1, c2, c3⟩ := (HR.out.below (bb HB2.out HB.out)) i his
      obtain ⟨b2, o2, rfl, hb', k0, k1, k2, k3⟩ := (HT.out.below (bb HB2.out HB.out)) i his
      generalize sl[i].iss = ss at *
      generalize sl[i].n = s1 at *
      generalize sl[i].e = s2 at *
      generalize sl[i].d = s3 at *
      go_wp2_with fail
      go_quiet (fail)
      go_wp2_with fail
      go_roundw
      case rel => exact ⟨i + 1, by go_num, by omega, HB.out.grown (row := none) ⟨rfl, rfl, rfl, Nat.le_refl _, fun _ _ _ => rfl⟩ HB.out.size (fun k e => by cases e)⟩
      case measure => simp [intOf]; omega
    · have hie : i = n := by omega
      subst hie
      go_wp2_with fail
      go_ret
      exact ⟨rfl, bb HB2.out HB.out⟩

end Go.Proofs.YtgdfeicojgnoaaaGreatDoor

namespace Go.Proofs.YtgdfeicojgnoaaaGreatDoor
open Go.RowKit
set_option linter.unusedVariables false
set_option linter.unusedSimpArgs false

def askedG (g : Gt) (T : Tb) : Gt := ⟨g.name, g.hands, g.skew, g.now, T, g.hrd⟩

noncomputable def asksG (g : Gt) (id : ByteArray) (til : Int) : Gt × Int :=
  if (gateB g && u_idOk id && utmB til) = true then (askedG g (enterT g.ask id til).1, (enterT g.ask id til).2) else (zeroG, 3)

theorem asksG_no {g : Gt} {id : ByteArray} {til : Int} (h : (gateB g && u_idOk id && utmB til) = false) : asksG g id til = (zeroG, 3) := if_neg (by rw [h]; exact Bool.false_ne_true)
theorem asksG_yes {g : Gt} {id : ByteArray} {til : Int} (h : (gateB g && u_idOk id && utmB til) = true) : asksG g id til = (askedG g (enterT g.ask id til).1, (enterT g.ask id til).2) := if_pos h

theorem insR_sz {l : List Ro} {k : Nat} {id : ByteArray} {til : Int} {b : Nat} (h : RoSz b l) (hi : id.size ≤ b) : RoSz b (insR l k ⟨id, til⟩) := fun x hx => by
  unfold insR at hx
  rcases List.mem_append.1 hx with h1 | h1
  · exact h x (List.mem_of_mem_take h1)
  · rcases List.mem_cons.1 h1 with rfl | h2
    · exact hi
    · exact h x (List.mem_of_mem_drop h2)

theorem ak_sz {t : Tb} {id : ByteArray} {til : Int} {b : Nat} (h : RoSz b t.rows) (hi : id.size ≤ b) : RoSz b (enterT t id til).1.rows := by
  unfold enterT
  split
  · exact h
  · split
    · exact h
    · exact insR_sz h hi

theorem ak_len {t : Tb} {id : ByteArray} {til : Int} : (enterT t id til).1.rows.length ≤ t.rows.length + 1 := by
  unfold enterT
  split
  · exact Nat.le_succ _
  · split
    · exact Nat.le_succ _
    · show (insR t.rows (findR t.rows id) ⟨id, til⟩).length ≤ _
      rw [insR_len _ _ _ (findR_le _ _)]
      exact Nat.le_refl _

theorem gate_pA {g : Gt} (h : gateB g = true) : g.hands.length ≤ 4 ∧ tableB g.ask = true ∧ tableB g.hrd = true := by
  unfold gateB at h
  simp only [Bool.and_eq_true] at h
  obtain ⟨_, h1, _, h3, h4, h5⟩ := h
  exact ⟨(handsB_p h1).1, h4, h5⟩

theorem gate_rowsA {g : Gt} (h : gateB g = true) : g.hands.length ≤ 100000 ∧ g.ask.rows.length ≤ 100000 ∧ g.hrd.rows.length ≤ 100000 := by
  obtain ⟨h1, h2, h3⟩ := gate_pA h
  exact ⟨Nat.le_trans h1 (by decide), Nat.le_trans (tableB_len h2) (by decide), Nat.le_trans (tableB_len h3) (by decide)⟩

theorem gate_lenA {g : Gt} (h : gateB g = true) : g.ask.rows.length ≤ 20 := by
  exact tableB_len (gate_pA h).2.1

theorem asksG_sz {g : Gt} {id : ByteArray} {til : Int} (h : GtSz 1048576 g) (hi : id.size ≤ 1048576) : GtSz 1048576 (asksG g id til).1 := by
  cases hb : (gateB g && u_idOk id && utmB til) with
  | false =>
    rw [asksG_no hb]
    exact ⟨Nat.zero_le _, fun y hy => absurd hy (List.not_mem_nil), Nat.zero_le _, fun y hy => absurd hy (List.not_mem_nil), Nat.zero_le _, fun y hy => absurd hy (List.not_mem_nil), Nat.zero_le _⟩
  | true =>
    rw [asksG_yes hb]
    obtain ⟨z1, z2, z3, z4, z5, z6, z7⟩ := h
    have hg : gateB g = true := by
      rw [Bool.and_eq_true, Bool.and_eq_true] at hb
      exact hb.1.1
    refine ⟨z1, z2, z3, ak_sz z4 hi, ?_, z6, z7⟩
    have h1 := gate_lenA hg
    have h2 := ak_len (t := g.ask) (id := id) (til := til)
    show (enterT g.ask id til).1.rows.length ≤ _
    omega

end Go.Proofs.YtgdfeicojgnoaaaGreatDoor
