/- The specification's NewGate. -/
import Derived.Test.YtdgppdjjmpjgkaaASpN
namespace Go.Proofs.Ytdgppdjjmpjgkaa
open Go.RowKit
set_option linter.unusedVariables false
set_option linter.unusedSimpArgs false

set_option maxRecDepth 8000 in
set_option maxHeartbeats 8000000 in
theorem cNewGateS (x : ByteArray) (l : List Hd) (ah : Option Addr) (ch : Nat) (sk most : Int) (w : World) (hR : HdRow w ah l) (hz : HdSz 1048576 l) (hn : l.length ≤ 1048576) (hx : x.size ≤ 1048576) :
    Calls Try.prog 11 #[.string x, .slice ah l.length ch, .int .i64 sk, .int .i64 most] w fun e w' => ∃ ah' ch' aa' ca' ar' cr', e = .returned (.tuple #[gtV (newG x l sk most).1 ah' ch' aa' ca' ar' cr', .bool (newG x l sk most).2]) ∧ GtOwn w' w.heap.size (newG x l sk most).1 ah' aa' ar' ∧ Below w.heap.size w w' := by
  have hsz : GtSz 1048576 (askG x l sk most) := ⟨hx, hz, hn, fun y hy => absurd hy (List.not_mem_nil), Nat.zero_le _, fun y hy => absurd hy (List.not_mem_nil), Nat.zero_le _⟩
  have hrow : ∀ wx, Below w.heap.size w wx → GtRow wx (askG x l sk most) ah none none := fun wx h => ⟨hR.below h, RoRow.nil _ _, RoRow.nil _ _⟩
  have CO := hid (fun wx (h : Below w.heap.size w wx) => cGateOkS (askG x l sk most) ah ch none 0 none 0 wx (hrow wx h) hsz)
  have CC := hid (fun (hg : gateB (askG x l sk most) = true) wx (h : Below w.heap.size w wx) => cGateCopyS (askG x l sk most) ah ch none 0 none 0 wx (hrow wx h) (show l.length ≤ 100000 from Nat.le_trans (show l.length ≤ 4 from gateB_hands hg) (by decide)) (Nat.zero_le _) (Nat.zero_le _))
  have HNF := hid (fun (h : gateB (askG x l sk most) = false) => (show newG x l sk most = (zeroG, false) from if_neg (by rw [h]; exact Bool.false_ne_true)))
  have HNT := hid (fun (h : gateB (askG x l sk most) = true) => (show newG x l sk most = (askG x l sk most, true) from if_pos h))
  obtain ⟨N0, hN0⟩ : ∃ N, newG x l sk most = N := ⟨_, rfl⟩
  rw [hN0]
  simp only [hN0] at HNF HNT
  clear hN0 hsz hrow hR hz hn hx
  obtain ⟨G, hG⟩ : ∃ G, askG x l sk most = G := ⟨_, rfl⟩
  have HGV := hid (show ∀ a1 c1 a2 c2 a3 c3, gtV G a1 c1 a2 c2 a3 c3 = .agg #[.string x, .slice a1 l.length c1, .int .i64 sk, .int .i64 0, .int .i64 most, .slice a2 0 c2, .int .i64 most, .slice a3 0 c3] from fun a1 c1 a2 c2 a3 c3 => by rw [← hG]; rfl)
  rw [hG] at CO CC HNF HNT
  rw [HGV.out] at CO
  simp only [HGV.out] at CC
  clear hG
  obtain ⟨V, hV⟩ : ∃ V, gateB G = V := ⟨_, rfl⟩
  rw [hV] at CO CC HNF HNT
  clear hV
  have HL0 := hid (show ∀ wx, GtOwn wx w.heap.size zeroG none none none from fun wx => ⟨OwnHd.nil _ _ _, OwnRo.nil _ _ _, OwnRo.nil _ _ _, fun h => absurd h (Nat.lt_irrefl 0)⟩)
  generalize l.length = n at *
  have HZ := hid (heap_alloc_new w (.cells #[.string ⟨#[]⟩, .slice none 0 0, .int .i64 0, .int .i64 0, .int .i64 0, .slice none 0 0, .int .i64 0, .slice none 0 0] 35))
  have HB0 := hid ((Below.refl w.heap.size w).alloc (Nat.le_refl _) (.cells #[.string ⟨#[]⟩, .slice none 0 0, .int .i64 0, .int .i64 0, .int .i64 0, .slice none 0 0, .int .i64 0, .slice none 0 0] 35))
  obtain ⟨W0, hW0⟩ : ∃ W0, w.alloc (.cells #[.string ⟨#[]⟩, .slice none 0 0, .int .i64 0, .int .i64 0, .int .i64 0, .slice none 0 0, .int .i64 0, .slice none 0 0] 35) = W0 := ⟨_, rfl⟩
  rw [hW0] at HZ HB0
  obtain ⟨R, hRR⟩ : ∃ R, w.heap.size = R := ⟨_, rfl⟩
  rw [hRR] at HZ
  have HRL := hid (lt_of_heap HZ.out)
  have HTg := hid (heap_alloc_new W0 (.cells #[.string x, .slice ah n ch, .int .i64 sk, .int .i64 0, .int .i64 most, .slice none 0 0, .int .i64 most, .slice none 0 0] 35))
  have HA := hid ((Below.refl W0.heap.size W0).alloc (Nat.le_refl _) (.cells #[.string x, .slice ah n ch, .int .i64 sk, .int .i64 0, .int .i64 most, .slice none 0 0, .int .i64 most, .slice none 0 0] 35))
  obtain ⟨W1, hW1⟩ : ∃ W, W0.alloc (.cells #[.string x, .slice ah n ch, .int .i64 sk, .int .i64 0, .int .i64 most, .slice none 0 0, .int .i64 most, .slice none 0 0] 35) = W := ⟨_, rfl⟩
  obtain ⟨P, hP⟩ : ∃ P, W0.heap.size = P := ⟨_, rfl⟩
  rw [hW1] at HTg HA
  rw [hP] at HTg
  have HBe := hid (bb HB0.out HA.out)
  have HZe := hid (u_blk_below HZ.out HA.out)
  have HW0 := hid hW0
  have HW1 := hid hW1
  clear hW0 hW1 HB0 HZ HA
  obtain ⟨⟨f0, f1, f2, f3, f4, f5, f6, f7⟩, _⟩ := g_box8f (show (W0.alloc (.cells #[.string x, .slice ah n ch, .int .i64 sk, .int .i64 0, .int .i64 most, .slice none 0 0, .int .i64 most, .slice none 0 0] 35)).heap[P]? = _ from by rw [HW1.out]; exact HTg.out)
  go_enter Try.func11, Try.ntmps11
  go_upto_region 1 with fail
  rw [HW0.out]
  clear HW0
  go_wp2_with fail
  rw [HW1.out]
  clear HW1 hP f0 f1 f2 f3 f4 f5 f6 f7
  refine (CO.out _ HBe.out).mono ?_
  rintro e w3 ⟨rfl, hb3⟩
  have HBf := hid (bb HBe.out hb3)
  have HZf := hid (u_blk_below HZe.out hb3)
  have HTh := hid (u_blk_below HTg.out hb3)
  clear hb3 HBe HZe HTg CO
  cases V with
  | false =>
    have HE := hid (HNF.out rfl)
    clear CC HNF HNT
    obtain ⟨⟨k0, k1, k2, k3, k4, k5, k6, k7⟩, kf⟩ := g_box8f HZf.out
    have kf0 := kf 0
    have kf1 := kf 1
    have kf2 := kf 2
    have kf3 := kf 3
    have kf4 := kf 4
    have kf5 := kf 5
    have kf6 := kf 6
    have kf7 := kf 7
    clear kf
    go_wp2_with fail
    refine bodyPost_ret (v := .tuple #[.agg #[.string ⟨#[]⟩, .slice none 0 0, .int .i64 0, .int .i64 0, .int .i64 0, .slice none 0 0, .int .i64 0, .slice none 0 0], .bool false]) (by simp [results, Try.results11, go_sem, k0, k1, k2, k3, k4, k5, k6, k7]) rfl ⟨none, 0, none, 0, none, 0, by rw [HE.out]; rfl, by rw [HE.out]; exact HL0.out _, ?_⟩
    iterate 8 refine Below.setCell ?_ (show w.heap.size ≤ R by omega) _
    exact HBf.out
  | true =>
    have HE := hid (HNT.out rfl)
    have C2 := hid (CC.out rfl)
    clear CC HNF HNT
    obtain ⟨⟨f0, f1, f2, f3, f4, f5, f6, f7⟩, _⟩ := g_box8f HTh.out
    go_wp2_with fail
    clear f0 f1 f2 f3 f4 f5 f6 f7
    refine (C2.out _ HBf.out).mono ?_
    rintro e w4 ⟨a1, c1, a2, c2, a3, c3, rfl, ho, hb4⟩
    have HBg := hid (bb HBf.out hb4)
    have HZg := hid (u_blk_below HZf.out hb4)
    have HO := hid ho
    have HRg := hid (show R < w3.heap.size from lt_of_heap HZf.out)
    clear ho hb4 C2 HBf HZf
    obtain ⟨⟨k0, k1, k2, k3, k4, k5, k6, k7⟩, kf⟩ := g_box8f HZg.out
    have kf0 := kf 0
    have kf1 := kf 1
    have kf2 := kf 2
    have kf3 := kf 3
    have kf4 := kf 4
    have kf5 := kf 5
    have kf6 := kf 6
    have kf7 := kf 7
    clear kf
    go_wp2_with fail
    refine bodyPost_ret (v := .tuple #[.agg #[.string x, .slice a1 n c1, .int .i64 sk, .int .i64 0, .int .i64 most, .slice a2 0 c2, .int .i64 most, .slice a3 0 c3], .bool true]) (by simp [results, Try.results11, go_sem, k0, k1, k2, k3, k4, k5, k6, k7]) rfl ⟨a1, c1, a2, c2, a3, c3, ?_, ?_, ?_⟩
    · rw [HE.out]
      simp only [HGV.out]
    · have h1 := own_set8 HO.out HRg.out (.string x) (.slice a1 n c1) (.int .i64 sk) (.int .i64 0) (.int .i64 most) (.slice a2 0 c2) (.int .i64 most) (.slice a3 0 c3)
      rw [HE.out]
      exact h1.mono (by have := HRg.out; omega)
    · iterate 8 refine Below.setCell ?_ (show w.heap.size ≤ R by omega) _
      exact HBg.out

end Go.Proofs.Ytdgppdjjmpjgkaa
