/- The program's NewGate. -/
import Derived.Test.YtdgppdjjmpjgkaaAGc
import Derived.Test.YtdgppdjjmpjgkaaUNew
import Derived.Deep.CutRange
namespace Go.Proofs.Ytdgppdjjmpjgkaa
open Go.RowKit
set_option linter.unusedVariables false
set_option linter.unusedSimpArgs false

/-- The gate that is asked for. -/
def askG (x : ByteArray) (l : List Hd) (sk most : Int) : Gt := ⟨x, l, sk, 0, ⟨most, []⟩, ⟨most, []⟩⟩

noncomputable def newG (x : ByteArray) (l : List Hd) (sk most : Int) : Gt × Bool := if gateB (askG x l sk most) = true then (askG x l sk most, true) else (zeroG, false)

theorem tableB_none (m : Int) (h : mostB m = false) : tableB ⟨m, []⟩ = false := by
  unfold tableB
  rw [h]
  rfl

theorem askG_new (x : ByteArray) (l : List Hd) (sk most : Int) : gateB ⟨x, l, sk, 0, (newT most).1, (newT most).1⟩ = gateB (askG x l sk most) ∧ (gateB (askG x l sk most) = true → (newT most).1 = ⟨most, []⟩) := by
  cases h : mostB most with
  | true =>
    rw [newT_t h]
    exact ⟨rfl, fun _ => rfl⟩
  | false =>
    rw [newT_f h]
    have h1 : tableB ⟨most, []⟩ = false := tableB_none most h
    have h2 : tableB zeroT = false := tableB_none 0 (by decide)
    have e1 : gateB (askG x l sk most) = false := by
      unfold gateB askG
      simp only
      rw [h1]
      simp
    have e2 : gateB ⟨x, l, sk, 0, zeroT, zeroT⟩ = false := by
      unfold gateB
      simp only
      rw [h2]
      simp
    exact ⟨e2.trans e1.symm, fun h => by rw [e1] at h; cases h⟩

theorem gateB_hands {g : Gt} (h : gateB g = true) : g.hands.length ≤ 4 := by
  unfold gateB at h
  rw [Bool.and_eq_true, Bool.and_eq_true] at h
  exact (handsB_p h.2.1).1

set_option maxRecDepth 8000 in
set_option maxHeartbeats 8000000 in
theorem cNewGateI (x : ByteArray) (l : List Hd) (ah : Option Addr) (ch : Nat) (sk most : Int) (w : World) (hR : HdRow w ah l) (hz : HdSz 1048576 l) (hn : l.length ≤ 1048576) (hx : x.size ≤ 1048576) :
    Calls Try.prog 13 #[.string x, .slice ah l.length ch, .int .i64 sk, .int .i64 most] w fun e w' => ∃ ah' ch' aa' ca' ar' cr', e = .returned (.tuple #[gtV (newG x l sk most).1 ah' ch' aa' ca' ar' cr', .bool (newG x l sk most).2]) ∧ GtOwn w' w.heap.size (newG x l sk most).1 ah' aa' ar' ∧ Below w.heap.size w w' := by
  obtain ⟨E1, E2⟩ := askG_new x l sk most
  have hrows : (newT most).1.rows = [] := newT_rows most
  have hsz : GtSz 1048576 ⟨x, l, sk, 0, (newT most).1, (newT most).1⟩ := ⟨hx, hz, hn, by rw [hrows]; exact fun y hy => absurd hy (List.not_mem_nil), by rw [hrows]; exact Nat.zero_le _, by rw [hrows]; exact fun y hy => absurd hy (List.not_mem_nil), by rw [hrows]; exact Nat.zero_le _⟩
  have hrow : ∀ wx, Below w.heap.size w wx → GtRow wx ⟨x, l, sk, 0, (newT most).1, (newT most).1⟩ ah none none := fun wx h => ⟨hR.below h, by rw [hrows]; exact RoRow.nil _ _, by rw [hrows]; exact RoRow.nil _ _⟩
  have CN := hid (fun wx => cNewTableI most wx)
  have CO := hid (fun wx (h : Below w.heap.size w wx) => cGateOkI ⟨x, l, sk, 0, (newT most).1, (newT most).1⟩ ah ch none 0 none 0 wx (hrow wx h) hsz)
  have CC := hid (fun (hg : gateB (askG x l sk most) = true) wx (h : Below w.heap.size w wx) => cCopiedGate ⟨x, l, sk, 0, (newT most).1, (newT most).1⟩ ah ch none 0 none 0 wx (hrow wx h) hsz (show l.length ≤ 100000 from Nat.le_trans (show l.length ≤ 4 from gateB_hands hg) (by decide)) (by simp only [hrows]; exact Nat.zero_le _) (by simp only [hrows]; exact Nat.zero_le _))
  rw [E1] at CO
  unfold gtV at CO CC
  unfold tbV at CN
  simp only [hrows, List.length_nil] at CN CO CC
  have HE2 := hid E2
  have HRR := hid hrows
  obtain ⟨m, hm⟩ : ∃ m, (newT most).1.most = m := ⟨_, rfl⟩
  have HM := hid hm
  rw [hm] at CN CO CC
  clear hR hz hn hx E1 E2 hrows hsz hrow hm
  obtain ⟨d, hd⟩ : ∃ d, (newT most).2 = d := ⟨_, rfl⟩
  rw [hd] at CN
  clear hd
  have HNF := hid (fun (h : gateB (askG x l sk most) = false) => (show newG x l sk most = (zeroG, false) from if_neg (by rw [h]; exact Bool.false_ne_true)))
  have HNT := hid (fun (h : gateB (askG x l sk most) = true) => (show newG x l sk most = (askG x l sk most, true) from if_pos h))
  obtain ⟨N0, hN0⟩ : ∃ N, newG x l sk most = N := ⟨_, rfl⟩
  rw [hN0]
  simp only [hN0] at HNF HNT
  clear hN0
  have HL0 := hid (show ∀ wx, GtOwn wx w.heap.size zeroG none none none from fun wx => ⟨OwnHd.nil _ _ _, OwnRo.nil _ _ _, OwnRo.nil _ _ _, fun h => absurd h (Nat.lt_irrefl 0)⟩)
  obtain ⟨n, hnn⟩ : ∃ n, l.length = n := ⟨_, rfl⟩
  have HN := hid hnn
  rw [hnn] at CO CC ⊢
  clear hnn
  have HZ := hid (heap_alloc_new w (.cells #[.string ⟨#[]⟩, .slice none 0 0, .int .i64 0, .int .i64 0, .int .i64 0, .slice none 0 0, .int .i64 0, .slice none 0 0] 35))
  have HB0 := hid ((Below.refl w.heap.size w).alloc (Nat.le_refl _) (.cells #[.string ⟨#[]⟩, .slice none 0 0, .int .i64 0, .int .i64 0, .int .i64 0, .slice none 0 0, .int .i64 0, .slice none 0 0] 35))
  obtain ⟨W0, hW0⟩ : ∃ W0, w.alloc (.cells #[.string ⟨#[]⟩, .slice none 0 0, .int .i64 0, .int .i64 0, .int .i64 0, .slice none 0 0, .int .i64 0, .slice none 0 0] 35) = W0 := ⟨_, rfl⟩
  rw [hW0] at HZ HB0
  obtain ⟨R, hRR⟩ : ∃ R, w.heap.size = R := ⟨_, rfl⟩
  have HRE := hid hRR
  rw [hRR] at HZ
  have HRL := hid (lt_of_heap HZ.out)
  go_enter Try.func13, Try.ntmps13
  go_wp2_with fail
  clear hW0
  refine (CN.out _).mono ?_
  rintro e w1 ⟨rfl, hb1⟩
  have HBa := hid (bb HB0.out hb1)
  have HZa := hid (u_blk_below HZ.out hb1)
  have HTa := hid (heap_alloc_new w1 (.cells #[.int .i64 m, .slice none 0 0] 33))
  have HA := hid ((Below.refl w1.heap.size w1).alloc (Nat.le_refl _) (.cells #[.int .i64 m, .slice none 0 0] 33))
  obtain ⟨W1, hW1⟩ : ∃ W, w1.alloc (.cells #[.int .i64 m, .slice none 0 0] 33) = W := ⟨_, rfl⟩
  obtain ⟨T1, hT1⟩ : ∃ T, w1.heap.size = T := ⟨_, rfl⟩
  rw [hW1] at HTa HA
  rw [hT1] at HTa
  have HBb := hid (bb HBa.out HA.out)
  have HZb := hid (u_blk_below HZa.out HA.out)
  clear hb1 HB0 HZ HBa HZa HA
  have HW1 := hid hW1
  clear hW1
  go_wp2_with fail
  rw [HW1.out]
  clear HW1 hT1
  refine (CN.out _).mono ?_
  rintro e w2 ⟨rfl, hb2⟩
  have HBc := hid (bb HBb.out hb2)
  have HZc := hid (u_blk_below HZb.out hb2)
  have HTc := hid (u_blk_below HTa.out hb2)
  have HTd := hid (heap_alloc_new w2 (.cells #[.int .i64 m, .slice none 0 0] 33))
  have HA := hid ((Below.refl w2.heap.size w2).alloc (Nat.le_refl _) (.cells #[.int .i64 m, .slice none 0 0] 33))
  obtain ⟨W2, hW2⟩ : ∃ W, w2.alloc (.cells #[.int .i64 m, .slice none 0 0] 33) = W := ⟨_, rfl⟩
  obtain ⟨T2, hT2⟩ : ∃ T, w2.heap.size = T := ⟨_, rfl⟩
  rw [hW2] at HTd HA
  rw [hT2] at HTd
  have HBd := hid (bb HBc.out HA.out)
  have HZd := hid (u_blk_below HZc.out HA.out)
  have HTe := hid (u_blk_below HTc.out HA.out)
  clear hb2 HBb HZb HTa HBc HZc HTc HA CN
  obtain ⟨⟨t0, t1⟩, _⟩ := u_box2f HTe.out
  obtain ⟨⟨t2, t3⟩, _⟩ := u_box2f HTd.out
  have HTg := hid (heap_alloc_new W2 (.cells #[.string x, .slice ah n ch, .int .i64 sk, .int .i64 0, .int .i64 m, .slice none 0 0, .int .i64 m, .slice none 0 0] 35))
  have HA := hid ((Below.refl W2.heap.size W2).alloc (Nat.le_refl _) (.cells #[.string x, .slice ah n ch, .int .i64 sk, .int .i64 0, .int .i64 m, .slice none 0 0, .int .i64 m, .slice none 0 0] 35))
  obtain ⟨W3, hW3⟩ : ∃ W, W2.alloc (.cells #[.string x, .slice ah n ch, .int .i64 sk, .int .i64 0, .int .i64 m, .slice none 0 0, .int .i64 m, .slice none 0 0] 35) = W := ⟨_, rfl⟩
  obtain ⟨P, hP⟩ : ∃ P, W2.heap.size = P := ⟨_, rfl⟩
  rw [hW3] at HTg HA
  rw [hP] at HTg
  have HBe := hid (bb HBd.out HA.out)
  have HZe := hid (u_blk_below HZd.out HA.out)
  clear HBd HZd HA HTd HTe
  have HW2 := hid hW2
  have HW3 := hid hW3
  clear hW2 hW3
  go_upto_region 3 with fail
  rw [HW2.out]
  clear HW2 hT2
  obtain ⟨⟨f0, f1, f2, f3, f4, f5, f6, f7⟩, _⟩ := g_box8f (show (W2.alloc (.cells #[.string x, .slice ah n ch, .int .i64 sk, .int .i64 0, .int .i64 m, .slice none 0 0, .int .i64 m, .slice none 0 0] 35)).heap[P]? = _ from by rw [HW3.out]; exact HTg.out)
  go_wp2_with fail
  rw [HW3.out]
  clear t0 t1 t2 t3 HW3 hP
  refine (CO.out _ HBe.out).mono ?_
  rintro e w3 ⟨rfl, hb3⟩
  have HBf := hid (bb HBe.out hb3)
  have HZf := hid (u_blk_below HZe.out hb3)
  have HTh := hid (u_blk_below HTg.out hb3)
  clear hb3 HBe HZe HTg CO f0 f1 f2 f3 f4 f5 f6 f7
  obtain ⟨⟨k0, k1, k2, k3, k4, k5, k6, k7⟩, kf⟩ := g_box8f HZf.out
  have kf0 := kf 0
  have kf1 := kf 1
  have kf2 := kf 2
  have kf3 := kf 3
  have kf4 := kf 4
  have kf5 := kf 5
  have kf6 := kf 6
  have kf7 := kf 7
  clear kf
  cases hg : gateB (askG x l sk most) with
  | false =>
    have HE := hid (HNF.out hg)
    clear hg CC HE2 HNF HNT
    go_wp2_with fail
    refine bodyPost_ret (v := .tuple #[.agg #[.string ⟨#[]⟩, .slice none 0 0, .int .i64 0, .int .i64 0, .int .i64 0, .slice none 0 0, .int .i64 0, .slice none 0 0], .bool false]) (by simp [results, Try.results13, go_sem, k0, k1, k2, k3, k4, k5, k6, k7]) rfl ⟨none, 0, none, 0, none, 0, by rw [HE.out]; rfl, by rw [HE.out]; exact HL0.out _, ?_⟩
    iterate 8 refine Below.setCell ?_ (show w.heap.size ≤ R by omega) _
    exact HBf.out
  | true =>
    have HE := hid (HNT.out hg)
    have HT := hid (HE2.out hg)
    have C2 := hid (CC.out hg)
    clear hg CC HE2 HNF HNT k0 k1 k2 k3 k4 k5 k6 k7 kf0 kf1 kf2 kf3 kf4 kf5 kf6 kf7
    obtain ⟨⟨f0, f1, f2, f3, f4, f5, f6, f7⟩, _⟩ := g_box8f HTh.out
    go_wp2_with fail
    clear f0 f1 f2 f3 f4 f5 f6 f7
    refine (C2.out _ HBf.out).mono ?_
    rintro e w4 ⟨a1, c1, a2, c2, a3, c3, rfl, ho, hb4⟩
    have HBg := hid (bb HBf.out hb4)
    have HZg := hid (u_blk_below HZf.out hb4)
    have HO := hid ho
    have HRg := hid (show R < w3.heap.size from lt_of_heap HZf.out)
    clear ho hb4 C2 HBf HZf
    obtain ⟨⟨k0, k1, k2, k3, k4, k5, k6, k7⟩, kf⟩ := g_box8f HZg.out
    have kf0 := kf 0
    have kf1 := kf 1
    have kf2 := kf 2
    have kf3 := kf 3
    have kf4 := kf 4
    have kf5 := kf 5
    have kf6 := kf 6
    have kf7 := kf 7
    clear kf
    have HMM := hid (show m = most by rw [← HM.out, HT.out])
    go_wp2_with fail
    refine bodyPost_ret (v := .tuple #[.agg #[.string x, .slice a1 n c1, .int .i64 sk, .int .i64 0, .int .i64 m, .slice a2 0 c2, .int .i64 m, .slice a3 0 c3], .bool true]) (by simp [results, Try.results13, go_sem, k0, k1, k2, k3, k4, k5, k6, k7]) rfl ⟨a1, c1, a2, c2, a3, c3, ?_, ?_, ?_⟩
    · rw [HE.out]
      unfold gtV askG
      simp only [HN.out, List.length_nil, HMM.out]
    · have h1 := own_set8 HO.out HRg.out (.string x) (.slice a1 n c1) (.int .i64 sk) (.int .i64 0) (.int .i64 m) (.slice a2 0 c2) (.int .i64 m) (.slice a3 0 c3)
      rw [HT.out] at h1
      rw [HE.out]
      exact h1.mono (by have := HRg.out; omega)
    · iterate 8 refine Below.setCell ?_ (show w.heap.size ≤ R by omega) _
      exact HBg.out

end Go.Proofs.Ytdgppdjjmpjgkaa
