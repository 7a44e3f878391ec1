/- The program's settled. Heaps: what one step up and one step down keep. The heap of rows: its methods. -/
import Derived.Test.YtgdfeicojgnoaaaGreatDoorM33
import Derived.Test.YtgdfeicojgnoaaaGreatDoorM21
import Derived.Test.YtgdfeicojgnoaaaGreatDoorM4
import Derived.Test.YtgdfeicojgnoaaaGreatDoorM7
import Derived.Test.YtgdfeicojgnoaaaGreatDoorM3
import Derived.Deep.QuietTactic
import Derived.BigQuiet
namespace Go.Proofs.YtgdfeicojgnoaaaGreatDoor
open Go.RowKit
set_option linter.unusedVariables false
set_option linter.unusedSimpArgs false

/-- The two sentinels, and where they lie. -/
def SenAt (a0 a1 : Addr) (w : World) : Prop :=
  (∃ t fr, w.heap[0]? = some (.cells #[erV (.base a0)] t fr)) ∧ (∃ t fr, w.heap[1]? = some (.cells #[erV (.base a1)] t fr)) ∧ a0 ≠ a1 ∧
    (∃ c t, w.heap[a0.block]? = some (.cells c t (0, 0))) ∧ ∃ c t, w.heap[a1.block]? = some (.cells c t (0, 0))

theorem SenAt.below {a0 a1 : Addr} {w w' : World} (h : SenAt a0 a1 w) (hb : Below w.heap.size w w') : SenAt a0 a1 w' := by
  obtain ⟨⟨t, fr, h0⟩, ⟨s, fs, h1⟩, hn, ⟨c, u, h2⟩, d, v, h3⟩ := h
  exact ⟨⟨t, fr, u_blk_below h0 hb⟩, ⟨s, fs, u_blk_below h1 hb⟩, hn, ⟨c, u, u_blk_below h2 hb⟩, d, v, u_blk_below h3 hb⟩

theorem SenAt.cells {a0 a1 : Addr} {w : World} (h : SenAt a0 a1 w) : w.cell? ⟨0, 0, none⟩ = some (.iface 229 (.pointer (some a0))) ∧ w.cell? ⟨1, 0, none⟩ = some (.iface 229 (.pointer (some a1))) := by
  obtain ⟨⟨t, fr, h0⟩, ⟨s, fs, h1⟩, _⟩ := h
  exact ⟨by rw [cell_of_row _ _ _ _ _ _ h0]; rfl, by rw [cell_of_row _ _ _ _ _ _ h1]; rfl⟩

set_option maxRecDepth 8000 in
set_option maxHeartbeats 8000000 in
theorem cSettledNil (x : ByteArray) (ah : Option Addr) (nh ch : Nat) (sk nw am : Int) (aa : Option Addr) (na ca : Nat) (rm : Int) (ar : Option Addr) (nr cr : Nat) (x2 : ByteArray) (ah2 : Option Addr) (nh2 ch2 : Nat) (sk2 nw2 am2 : Int) (aa2 : Option Addr) (na2 ca2 : Nat) (rm2 : Int) (ar2 : Option Addr) (nr2 cr2 : Nat) (w : World) :
    Calls Tryz.prog 27 #[.agg #[.string x, .slice ah nh ch, .int .i64 sk, .int .i64 nw, .int .i64 am, .slice aa na ca, .int .i64 rm, .slice ar nr cr], .agg #[.string x2, .slice ah2 nh2 ch2, .int .i64 sk2, .int .i64 nw2, .int .i64 am2, .slice aa2 na2 ca2, .int .i64 rm2, .slice ar2 nr2 cr2], .nilIface] w fun e w' => e = .returned (.agg #[.string x2, .slice ah2 nh2 ch2, .int .i64 sk2, .int .i64 nw2, .int .i64 am2, .slice aa2 na2 ca2, .int .i64 rm2, .slice ar2 nr2 cr2]) ∧ Below w.heap.size w w' := by
  obtain ⟨b1, b2, b3⟩ := u_heap3 w (.cells #[.string x, .slice ah nh ch, .int .i64 sk, .int .i64 nw, .int .i64 am, .slice aa na ca, .int .i64 rm, .slice ar nr cr] 29) (.cells #[.string x2, .slice ah2 nh2 ch2, .int .i64 sk2, .int .i64 nw2, .int .i64 am2, .slice aa2 na2 ca2, .int .i64 rm2, .slice ar2 nr2 cr2] 29) (.cells #[.string ⟨#[]⟩, .slice none 0 0, .int .i64 0, .int .i64 0, .int .i64 0, .slice none 0 0, .int .i64 0, .slice none 0 0] 29)
  have HB0 := hid ((((Below.refl w.heap.size w).alloc (Nat.le_refl _) (.cells #[.string x, .slice ah nh ch, .int .i64 sk, .int .i64 nw, .int .i64 am, .slice aa na ca, .int .i64 rm, .slice ar nr cr] 29)).alloc (by simp) (.cells #[.string x2, .slice ah2 nh2 ch2, .int .i64 sk2, .int .i64 nw2, .int .i64 am2, .slice aa2 na2 ca2, .int .i64 rm2, .slice ar2 nr2 cr2] 29)).alloc (by simp; omega) (.cells #[.string ⟨#[]⟩, .slice none 0 0, .int .i64 0, .int .i64 0, .int .i64 0, .slice none 0 0, .int .i64 0, .slice none 0 0] 29))
  obtain ⟨W0, hW0⟩ : ∃ W0, ((w.alloc (.cells #[.string x, .slice ah nh ch, .int .i64 sk, .int .i64 nw, .int .i64 am, .slice aa na ca, .int .i64 rm, .slice ar nr cr] 29)).alloc (.cells #[.string x2, .slice ah2 nh2 ch2, .int .i64 sk2, .int .i64 nw2, .int .i64 am2, .slice aa2 na2 ca2, .int .i64 rm2, .slice ar2 nr2 cr2] 29)).alloc (.cells #[.string ⟨#[]⟩, .slice none 0 0, .int .i64 0, .int .i64 0, .int .i64 0, .slice none 0 0, .int .i64 0, .slice none 0 0] 29) = W0 := ⟨_, rfl⟩
  rw [hW0] at b1 b2 b3 HB0
  obtain ⟨B, hB⟩ : ∃ B, w.heap.size = B := ⟨_, rfl⟩
  rw [hB] at b1 b2 b3
  have HM1 := hid b1
  have HM2 := hid b2
  have HM3 := hid b3
  clear b1 b2 b3
  obtain ⟨⟨j0, j1, j2, j3, j4, j5, j6, j7⟩, jf⟩ := g_box8f HM2.out
  clear jf
  obtain ⟨⟨k0, k1, k2, k3, k4, k5, k6, k7⟩, kf⟩ := g_box8f HM3.out
  have kf0 := kf 0
  have kf1 := kf 1
  have kf2 := kf 2
  have kf3 := kf 3
  have kf4 := kf 4
  have kf5 := kf 5
  have kf6 := kf 6
  have kf7 := kf 7
  clear kf
  go_enter Tryz.func27, Tryz.ntmps27
  go_wp2_with fail
  refine bodyPost_ret (v := .agg #[.string x2, .slice ah2 nh2 ch2, .int .i64 sk2, .int .i64 nw2, .int .i64 am2, .slice aa2 na2 ca2, .int .i64 rm2, .slice ar2 nr2 cr2]) (by simp [results, Tryz.results27, go_sem, k0, k1, k2, k3, k4, k5, k6, k7]) rfl ⟨rfl, ?_⟩
  iterate 8 refine Below.setCell ?_ (show w.heap.size ≤ B + 2 by omega) _
  exact HB0.out

set_option maxRecDepth 8000 in
set_option maxHeartbeats 8000000 in
theorem cSettledBad (x : ByteArray) (ah : Option Addr) (nh ch : Nat) (sk nw am : Int) (aa : Option Addr) (na ca : Nat) (rm : Int) (ar : Option Addr) (nr cr : Nat) (x2 : ByteArray) (ah2 : Option Addr) (nh2 ch2 : Nat) (sk2 nw2 am2 : Int) (aa2 : Option Addr) (na2 ca2 : Nat) (rm2 : Int) (ar2 : Option Addr) (nr2 cr2 : Nat) (a0 a1 : Addr) (w : World) (hS : SenAt a0 a1 w) :
    Calls Tryz.prog 27 #[.agg #[.string x, .slice ah nh ch, .int .i64 sk, .int .i64 nw, .int .i64 am, .slice aa na ca, .int .i64 rm, .slice ar nr cr], .agg #[.string x2, .slice ah2 nh2 ch2, .int .i64 sk2, .int .i64 nw2, .int .i64 am2, .slice aa2 na2 ca2, .int .i64 rm2, .slice ar2 nr2 cr2], erV (.base a0)] w fun e w' => e = .returned (.agg #[.string ⟨#[]⟩, .slice none 0 0, .int .i64 0, .int .i64 0, .int .i64 0, .slice none 0 0, .int .i64 0, .slice none 0 0]) ∧ Below w.heap.size w w' := by
  obtain ⟨b1, b2, b3⟩ := u_heap3 w (.cells #[.string x, .slice ah nh ch, .int .i64 sk, .int .i64 nw, .int .i64 am, .slice aa na ca, .int .i64 rm, .slice ar nr cr] 29) (.cells #[.string x2, .slice ah2 nh2 ch2, .int .i64 sk2, .int .i64 nw2, .int .i64 am2, .slice aa2 na2 ca2, .int .i64 rm2, .slice ar2 nr2 cr2] 29) (.cells #[.string ⟨#[]⟩, .slice none 0 0, .int .i64 0, .int .i64 0, .int .i64 0, .slice none 0 0, .int .i64 0, .slice none 0 0] 29)
  have HB0 := hid ((((Below.refl w.heap.size w).alloc (Nat.le_refl _) (.cells #[.string x, .slice ah nh ch, .int .i64 sk, .int .i64 nw, .int .i64 am, .slice aa na ca, .int .i64 rm, .slice ar nr cr] 29)).alloc (by simp) (.cells #[.string x2, .slice ah2 nh2 ch2, .int .i64 sk2, .int .i64 nw2, .int .i64 am2, .slice aa2 na2 ca2, .int .i64 rm2, .slice ar2 nr2 cr2] 29)).alloc (by simp; omega) (.cells #[.string ⟨#[]⟩, .slice none 0 0, .int .i64 0, .int .i64 0, .int .i64 0, .slice none 0 0, .int .i64 0, .slice none 0 0] 29))
  obtain ⟨W0, hW0⟩ : ∃ W0, ((w.alloc (.cells #[.string x, .slice ah nh ch, .int .i64 sk, .int .i64 nw, .int .i64 am, .slice aa na ca, .int .i64 rm, .slice ar nr cr] 29)).alloc (.cells #[.string x2, .slice ah2 nh2 ch2, .int .i64 sk2, .int .i64 nw2, .int .i64 am2, .slice aa2 na2 ca2, .int .i64 rm2, .slice ar2 nr2 cr2] 29)).alloc (.cells #[.string ⟨#[]⟩, .slice none 0 0, .int .i64 0, .int .i64 0, .int .i64 0, .slice none 0 0, .int .i64 0, .slice none 0 0] 29) = W0 := ⟨_, rfl⟩
  rw [hW0] at b1 b2 b3 HB0
  obtain ⟨B, hB⟩ : ∃ B, w.heap.size = B := ⟨_, rfl⟩
  rw [hB] at b1 b2 b3
  have HM1 := hid b1
  have HM2 := hid b2
  have HM3 := hid b3
  clear b1 b2 b3
  obtain ⟨⟨k0, k1, k2, k3, k4, k5, k6, k7⟩, kf⟩ := g_box8f HM3.out
  have kf0 := kf 0
  have kf1 := kf 1
  have kf2 := kf 2
  have kf3 := kf 3
  have kf4 := kf 4
  have kf5 := kf 5
  have kf6 := kf 6
  have kf7 := kf 7
  clear kf
  have e0 := (hS.below HB0.out).cells.1
  have CI := hid (fun wx => cIsSame a0 wx)
  unfold erV at CI ⊢
  go_enter Tryz.func27, Tryz.ntmps27
  go_wp2_with fail
  refine (CI.out _).mono ?_
  rintro e w1 ⟨rfl, hw1⟩
  obtain rfl := hw1.symm
  go_wp2_with fail
  refine bodyPost_ret (v := .agg #[.string ⟨#[]⟩, .slice none 0 0, .int .i64 0, .int .i64 0, .int .i64 0, .slice none 0 0, .int .i64 0, .slice none 0 0]) (by simp [results, Tryz.results27, go_sem, k0, k1, k2, k3, k4, k5, k6, k7]) rfl ⟨rfl, ?_⟩
  iterate 8 refine Below.setCell ?_ (show w.heap.size ≤ B + 2 by omega) _
  exact HB0.out

set_option maxRecDepth 8000 in
set_option maxHeartbeats 8000000 in
theorem cSettledOld (g : Gt) (ah : Option Addr) (ch : Nat) (aa : Option Addr) (ca : Nat) (ar : Option Addr) (cr : Nat) (x2 : ByteArray) (ah2 : Option Addr) (nh2 ch2 : Nat) (sk2 nw2 am2 : Int) (aa2 : Option Addr) (na2 ca2 : Nat) (rm2 : Int) (ar2 : Option Addr) (nr2 cr2 : Nat) (a0 a1 : Addr) (w : World) (hS : SenAt a0 a1 w) (hR : GtRow w g ah aa ar) (hz : GtSz 1048576 g) (hn1 : g.hands.length ≤ 100000) (hn2 : g.ask.rows.length ≤ 100000) (hn3 : g.hrd.rows.length ≤ 100000) :
    Calls Tryz.prog 27 #[gtV g ah ch aa ca ar cr, .agg #[.string x2, .slice ah2 nh2 ch2, .int .i64 sk2, .int .i64 nw2, .int .i64 am2, .slice aa2 na2 ca2, .int .i64 rm2, .slice ar2 nr2 cr2], erV (.base a1)] w fun e w' => ∃ ah' ch' aa' ca' ar' cr', e = .returned (gtV g ah' ch' aa' ca' ar' cr') ∧ GtOwn w' w.heap.size g ah' aa' ar' ∧ Below w.heap.size w w' := by
  have CC := hid (fun wx (h : Below w.heap.size w wx) => cCopiedGate g ah ch aa ca ar cr wx (hR.below h) hz hn1 hn2 hn3)
  have HOWN := hid (fun (wx : World) (Bx : Nat) (a b c : Option Addr) (h : GtOwn wx Bx g a b c) (R : Nat) (hR : R < Bx) => own_set8 h hR)
  clear hR hz hn1 hn2 hn3
  unfold gtV at CC ⊢
  generalize g.name = x at *
  generalize g.skew = sk at *
  generalize g.now = nw at *
  generalize g.ask.most = am at *
  generalize g.hrd.most = rm at *
  generalize g.hands.length = nh at *
  generalize g.ask.rows.length = na at *
  generalize g.hrd.rows.length = nr at *
  obtain ⟨b1, b2, b3⟩ := u_heap3 w (.cells #[.string x, .slice ah nh ch, .int .i64 sk, .int .i64 nw, .int .i64 am, .slice aa na ca, .int .i64 rm, .slice ar nr cr] 29) (.cells #[.string x2, .slice ah2 nh2 ch2, .int .i64 sk2, .int .i64 nw2, .int .i64 am2, .slice aa2 na2 ca2, .int .i64 rm2, .slice ar2 nr2 cr2] 29) (.cells #[.string ⟨#[]⟩, .slice none 0 0, .int .i64 0, .int .i64 0, .int .i64 0, .slice none 0 0, .int .i64 0, .slice none 0 0] 29)
  have HB0 := hid ((((Below.refl w.heap.size w).alloc (Nat.le_refl _) (.cells #[.string x, .slice ah nh ch, .int .i64 sk, .int .i64 nw, .int .i64 am, .slice aa na ca, .int .i64 rm, .slice ar nr cr] 29)).alloc (by simp) (.cells #[.string x2, .slice ah2 nh2 ch2, .int .i64 sk2, .int .i64 nw2, .int .i64 am2, .slice aa2 na2 ca2, .int .i64 rm2, .slice ar2 nr2 cr2] 29)).alloc (by simp; omega) (.cells #[.string ⟨#[]⟩, .slice none 0 0, .int .i64 0, .int .i64 0, .int .i64 0, .slice none 0 0, .int .i64 0, .slice none 0 0] 29))
  obtain ⟨W0, hW0⟩ : ∃ W0, ((w.alloc (.cells #[.string x, .slice ah nh ch, .int .i64 sk, .int .i64 nw, .int .i64 am, .slice aa na ca, .int .i64 rm, .slice ar nr cr] 29)).alloc (.cells #[.string x2, .slice ah2 nh2 ch2, .int .i64 sk2, .int .i64 nw2, .int .i64 am2, .slice aa2 na2 ca2, .int .i64 rm2, .slice ar2 nr2 cr2] 29)).alloc (.cells #[.string ⟨#[]⟩, .slice none 0 0, .int .i64 0, .int .i64 0, .int .i64 0, .slice none 0 0, .int .i64 0, .slice none 0 0] 29) = W0 := ⟨_, rfl⟩
  rw [hW0] at b1 b2 b3 HB0
  obtain ⟨B, hB⟩ : ∃ B, w.heap.size = B := ⟨_, rfl⟩
  rw [hB] at b1 b2 b3
  have HM1 := hid b1
  have HM2 := hid b2
  have HM3 := hid b3
  clear b1 b2 b3
  obtain ⟨⟨f0, f1, f2, f3, f4, f5, f6, f7⟩, ff⟩ := g_box8f HM1.out
  clear ff
  have HSx := hid (hS.below HB0.out)
  have e0 := HSx.out.cells.1
  have CI := hid (fun wx (h : SenAt a0 a1 wx) => cIsOther a1 a0 _ _ _ _ wx (Ne.symm h.2.2.1) h.2.2.2.2.choose_spec.choose_spec h.2.2.2.1.choose_spec.choose_spec)
  have HLT := hid (show B + 2 < W0.heap.size from lt_of_heap HM3.out)
  unfold erV at CI ⊢
  go_enter Tryz.func27, Tryz.ntmps27
  go_wp2_with fail
  refine (CI.out _ HSx.out).mono ?_
  rintro e w1 ⟨rfl, hw1⟩
  obtain rfl := hw1.symm
  go_wp2_with fail
  refine (CC.out _ HB0.out).mono ?_
  rintro e w4 ⟨a1', c1, a2, c2, a3, c3, rfl, ho, hb4⟩
  have HO := hid ho
  have HB4 := hid (bb HB0.out hb4)
  have HZ := hid (u_blk_below HM3.out hb4)
  clear ho hb4 f0 f1 f2 f3 f4 f5 f6 f7
  obtain ⟨⟨k0, k1, k2, k3, k4, k5, k6, k7⟩, kf⟩ := g_box8f HZ.out
  have kf0 := kf 0
  have kf1 := kf 1
  have kf2 := kf 2
  have kf3 := kf 3
  have kf4 := kf 4
  have kf5 := kf 5
  have kf6 := kf 6
  have kf7 := kf 7
  clear kf
  go_wp2_with fail
  refine bodyPost_ret (v := .agg #[.string x, .slice a1' nh c1, .int .i64 sk, .int .i64 nw, .int .i64 am, .slice a2 na c2, .int .i64 rm, .slice a3 nr c3]) (by simp [results, Tryz.results27, go_sem, k0, k1, k2, k3, k4, k5, k6, k7]) rfl ⟨a1', c1, a2, c2, a3, c3, rfl, ?_, ?_⟩
  · refine (HOWN.out _ _ _ _ _ HO.out (B + 2) HLT.out _ _ _ _ _ _ _ _).mono ?_
    have := HLT.out
    omega
  · iterate 8 refine Below.setCell ?_ (show w.heap.size ≤ B + 2 by omega) _
    exact HB4.out

end Go.Proofs.YtgdfeicojgnoaaaGreatDoor

namespace Go.Proofs.YtgdfeicojgnoaaaGreatDoor
set_option linter.unusedVariables false

/-- Two places changed round. -/
def swF (f : Nat → Int) (i j : Nat) : Nat → Int := fun k => if k = i then f j else if k = j then f i else f k

theorem swF_l (f : Nat → Int) (i j : Nat) : swF f i j i = f j := if_pos rfl
theorem swF_r (f : Nat → Int) (i j : Nat) : swF f i j j = f i := by
  unfold swF
  by_cases h : j = i
  · rw [if_pos h, h]
  · rw [if_neg h, if_pos rfl]
theorem swF_o {f : Nat → Int} {i j k : Nat} (h1 : ¬ k = i) (h2 : ¬ k = j) : swF f i j k = f k := by
  unfold swF
  rw [if_neg h1, if_neg h2]

def HeapF (f : Nat → Int) (n : Nat) : Prop := ∀ k, k < n → 0 < k → f ((k - 1) / 2) ≤ f k

/-- A heap but for what stands at j, which may be too small. -/
def UpOk (f : Nat → Int) (n j : Nat) : Prop := (∀ k, k < n → 0 < k → ¬ k = j → f ((k - 1) / 2) ≤ f k) ∧ (∀ k, k < n → 0 < j → 0 < k → (k - 1) / 2 = j → f ((j - 1) / 2) ≤ f k)

/-- A heap but for what stands at i, which may be too great. -/
def DownOk (f : Nat → Int) (n i : Nat) : Prop := (∀ k, k < n → 0 < k → ¬ (k - 1) / 2 = i → f ((k - 1) / 2) ≤ f k) ∧ (∀ k, k < n → 0 < k → (k - 1) / 2 = i → 0 < i → f ((i - 1) / 2) ≤ f k)

theorem heap_root {f : Nat → Int} {n : Nat} (h : HeapF f n) : ∀ k, k < n → f 0 ≤ f k := by
  intro k
  induction k using Nat.strongRecOn with
  | ind k ih =>
    intro hk
    rcases Nat.eq_zero_or_pos k with rfl | h0
    · exact Int.le_refl _
    · exact Int.le_trans (ih ((k - 1) / 2) (by omega) (by omega)) (h k hk h0)

/-- One more behind a heap. -/
theorem up_start {f : Nat → Int} {n : Nat} (h : HeapF f n) : UpOk f (n + 1) n :=
  ⟨fun k hk h0 hne => h k (by omega) h0, fun k hk _ h0 hp => by omega⟩

theorem up_step {f : Nat → Int} {n j : Nat} (h : UpOk f n j) (h0 : 0 < j) (hj : j < n) (hlt : f j < f ((j - 1) / 2)) : UpOk (swF f j ((j - 1) / 2)) n ((j - 1) / 2) := by
  obtain ⟨p, hp⟩ : ∃ p, (j - 1) / 2 = p := ⟨_, rfl⟩
  have hpj : p < j := by omega
  have h1 := h.1
  have h2 := fun k a b c => h.2 k a h0 b c
  rw [hp] at hlt h2 ⊢
  refine ⟨fun k hk hk0 hkp => ?_, fun k hk hp0 hk0 hkp => ?_⟩
  · by_cases hkj : k = j
    · subst hkj
      rw [hp, swF_r, swF_l]
      omega
    · rw [swF_o hkj hkp]
      by_cases q1 : (k - 1) / 2 = j
      · rw [q1, swF_l]
        exact h2 k hk hk0 q1
      · by_cases q2 : (k - 1) / 2 = p
        · have := h1 k hk hk0 hkj
          rw [q2] at this ⊢
          rw [swF_r]
          omega
        · rw [swF_o q1 q2]
          exact h1 k hk hk0 hkj
  · have e1 : swF f j p ((p - 1) / 2) = f ((p - 1) / 2) := swF_o (by omega) (by omega)
    have e2 := h1 p (by omega) hp0 (by omega)
    rw [e1]
    by_cases hkj : k = j
    · subst hkj
      rw [swF_l]
      exact e2
    · rw [swF_o hkj (by omega)]
      have := h1 k hk hk0 hkj
      rw [hkp] at this
      omega

theorem up_end {f : Nat → Int} {n j : Nat} (h : UpOk f n j) (he : j = 0 ∨ f ((j - 1) / 2) ≤ f j) : HeapF f n := fun k hk h0 => by
  by_cases hkj : k = j
  · subst hkj
    rcases he with rfl | he
    · omega
    · exact he
  · exact h.1 k hk h0 hkj

theorem down_start {f : Nat → Int} {n : Nat} (h : ∀ k, k < n → 0 < k → ¬ (k - 1) / 2 = 0 → f ((k - 1) / 2) ≤ f k) : DownOk f n 0 :=
  ⟨fun k hk h0 hne => h k hk h0 hne, fun k _ _ _ h0 => absurd h0 (Nat.lt_irrefl 0)⟩

theorem down_step {f : Nat → Int} {n i j : Nat} (h : DownOk f n i) (hj : j < n) (hji : (j - 1) / 2 = i) (h0 : 0 < j) (hlt : f j < f i) (hm : ∀ k, k < n → 0 < k → (k - 1) / 2 = i → f j ≤ f k) : DownOk (swF f i j) n j := by
  refine ⟨fun k hk hk0 hkq => ?_, fun k hk hk0 hkq _ => ?_⟩
  · by_cases hki : k = i
    · subst hki
      rw [swF_l, swF_o (by omega) hkq]
      exact h.2 j hj h0 hji hk0
    · by_cases hkj : k = j
      · subst hkj
        rw [hji, swF_l, swF_r]
        omega
      · rw [swF_o hki hkj]
        by_cases q1 : (k - 1) / 2 = i
        · rw [q1, swF_l]
          exact hm k hk hk0 q1
        · rw [swF_o q1 hkq]
          exact h.1 k hk hk0 q1
  · have e : swF f i j k = f k := swF_o (by omega) (by omega)
    rw [hji, swF_l, e]
    have := h.1 k hk hk0 (by omega)
    rw [hkq] at this
    exact this

theorem down_end {f : Nat → Int} {n i : Nat} (h : DownOk f n i) (he : ∀ k, k < n → 0 < k → (k - 1) / 2 = i → f i ≤ f k) : HeapF f n := fun k hk h0 => by
  by_cases hk1 : (k - 1) / 2 = i
  · rw [hk1]
    exact he k hk h0 hk1
  · exact h.1 k hk h0 hk1

end Go.Proofs.YtgdfeicojgnoaaaGreatDoor

namespace Go.Proofs.YtgdfeicojgnoaaaGreatDoor
open Go.RowKit
set_option linter.unusedVariables false
set_option linter.unusedSimpArgs false

theorem cWLen (a : Option Addr) (n c : Nat) (w : World) : Calls Tryz.prog 187 #[.slice a n c] w fun e w' => e = .returned (.int .i64 (n : Int)) ∧ w' = w := by
  go_enter Tryz.func187, Tryz.ntmps187
  go_wp2
  go_ret
  exact ⟨rfl, rfl⟩

theorem cWLess (a : Option Addr) (c : Nat) (l : List Ro) (i j : Nat) (w : World) (hR : RoRow w a l) (hi : i < l.length) (hj : j < l.length) :
    Calls Tryz.prog 188 #[.slice a l.length c, .int .i64 (i : Int), .int .i64 (j : Int)] w fun e w' => e = .returned (.bool (decide (l[i].til < l[j].til))) ∧ Below w.heap.size w w' := by
  obtain ⟨b, o, rfl, hb, c1, c2⟩ := hR i hi
  obtain ⟨b2, o2, e2, hb', k1, k2⟩ := hR j hj
  obtain ⟨rfl, rfl⟩ : b2 = b ∧ o2 = o := by
    injection e2 with e2
    injection e2 with x y z
    exact ⟨x.symm, y.symm⟩
  clear c1 k1 e2 hR
  generalize l[i].til = x at *
  generalize l[j].til = y at *
  generalize l.length = n at *
  have hi1 : (i : Int) < (n : Int) := by omega
  have hj1 : (j : Int) < (n : Int) := by omega
  obtain ⟨D, hD⟩ : ∃ D, decide (x < y) = D := ⟨_, rfl⟩
  go_enter Tryz.func188, Tryz.ntmps188
  go_wp2_with fail
  go_quiet (fail)
  go_wp2_with fail
  go_ret
  exact ⟨by rw [hD]; rfl, (Below.refl w.heap.size w).grown (row := none) ⟨rfl, rfl, rfl, Nat.le_refl _, fun _ _ _ => rfl⟩ (Nat.le_refl _) (fun k e => by cases e)⟩

theorem nil_push (R : Nat) (w : World) : (nilAhead 361 139 (.pointer (some ⟨R, 0, none⟩)) "Push").run Tryz.prog w = .ok (some false) w := by kernel_rfl
theorem nil_pop (R : Nat) (w : World) : (nilAhead 361 139 (.pointer (some ⟨R, 0, none⟩)) "Pop").run Tryz.prog w = .ok (some false) w := by kernel_rfl
theorem nil_len (R : Nat) (w : World) : (nilAhead 361 139 (.pointer (some ⟨R, 0, none⟩)) "Len").run Tryz.prog w = .ok (some false) w := by kernel_rfl
theorem nil_less (R : Nat) (w : World) : (nilAhead 361 139 (.pointer (some ⟨R, 0, none⟩)) "Less").run Tryz.prog w = .ok (some false) w := by kernel_rfl
theorem nil_swap (R : Nat) (w : World) : (nilAhead 361 139 (.pointer (some ⟨R, 0, none⟩)) "Swap").run Tryz.prog w = .ok (some false) w := by kernel_rfl
theorem meth_push (R : Nat) (w : World) : (method 361 139 (.pointer (some ⟨R, 0, none⟩)) "Push").run Tryz.prog w = .ok (191, .pointer (some ⟨R, 0, none⟩)) w := by kernel_rfl
theorem meth_pop (R : Nat) (w : World) : (method 361 139 (.pointer (some ⟨R, 0, none⟩)) "Pop").run Tryz.prog w = .ok (190, .pointer (some ⟨R, 0, none⟩)) w := by kernel_rfl

theorem info_len : (Tryz.prog.info? 139).bind (fun i => (i.methods.find? (fun x => x.name == "Len")).map (fun m => (m.path.toList, m.path.isEmpty, m.func))) = some ([], true, some (187, false)) := by kernel_rfl

theorem meth_len (R : Nat) (v : Value) (w : World) (h : w.cell? ⟨R, 0, none⟩ = some v) : (method 361 139 (.pointer (some ⟨R, 0, none⟩)) "Len").run Tryz.prog w = .ok (187, v) w := by
  have hi := info_len
  cases h1 : Tryz.prog.info? 139 with
  | none => rw [h1] at hi; cases hi
  | some i =>
    rw [h1] at hi
    simp only [Option.bind_some] at hi
    cases h2 : i.methods.find? (fun x => x.name == "Len") with
    | none => rw [h2] at hi; cases hi
    | some m =>
      rw [h2] at hi
      simp only [Option.map_some, Option.some.injEq, Prod.mk.injEq] at hi
      obtain ⟨p1, p2, p3⟩ := hi
      unfold method
      have p0 : m.path = #[] := by simpa using p1
      have hn : ∀ nm : String, Builtin.ssaWrapNilChk_ #[139] 139 #[.pointer (some ⟨R, 0, none⟩), strVal "", strVal nm] = pure (.pointer (some ⟨R, 0, none⟩)) := fun _ => rfl
      have ha : (isAgg 137).run Tryz.prog w = .ok false w := by kernel_rfl
      simp [typeInfo, h1, h2, p0, p3, follow, receiverAt, Place.get, asAddr, go_sem, h, ha, hn, loadVar]


theorem info_less : (Tryz.prog.info? 139).bind (fun i => (i.methods.find? (fun x => x.name == "Less")).map (fun m => (m.path.toList, m.path.isEmpty, m.func))) = some ([], true, some (188, false)) := by kernel_rfl

theorem meth_less (R : Nat) (v : Value) (w : World) (h : w.cell? ⟨R, 0, none⟩ = some v) : (method 361 139 (.pointer (some ⟨R, 0, none⟩)) "Less").run Tryz.prog w = .ok (188, v) w := by
  have hi := info_less
  cases h1 : Tryz.prog.info? 139 with
  | none => rw [h1] at hi; cases hi
  | some i =>
    rw [h1] at hi
    simp only [Option.bind_some] at hi
    cases h2 : i.methods.find? (fun x => x.name == "Less") with
    | none => rw [h2] at hi; cases hi
    | some m =>
      rw [h2] at hi
      simp only [Option.map_some, Option.some.injEq, Prod.mk.injEq] at hi
      obtain ⟨p1, p2, p3⟩ := hi
      unfold method
      have p0 : m.path = #[] := by simpa using p1
      have hn : ∀ nm : String, Builtin.ssaWrapNilChk_ #[139] 139 #[.pointer (some ⟨R, 0, none⟩), strVal "", strVal nm] = pure (.pointer (some ⟨R, 0, none⟩)) := fun _ => rfl
      have ha : (isAgg 137).run Tryz.prog w = .ok false w := by kernel_rfl
      simp [typeInfo, h1, h2, p0, p3, follow, receiverAt, Place.get, asAddr, go_sem, h, ha, hn, loadVar]


theorem info_swap : (Tryz.prog.info? 139).bind (fun i => (i.methods.find? (fun x => x.name == "Swap")).map (fun m => (m.path.toList, m.path.isEmpty, m.func))) = some ([], true, some (189, false)) := by kernel_rfl

theorem meth_swap (R : Nat) (v : Value) (w : World) (h : w.cell? ⟨R, 0, none⟩ = some v) : (method 361 139 (.pointer (some ⟨R, 0, none⟩)) "Swap").run Tryz.prog w = .ok (189, v) w := by
  have hi := info_swap
  cases h1 : Tryz.prog.info? 139 with
  | none => rw [h1] at hi; cases hi
  | some i =>
    rw [h1] at hi
    simp only [Option.bind_some] at hi
    cases h2 : i.methods.find? (fun x => x.name == "Swap") with
    | none => rw [h2] at hi; cases hi
    | some m =>
      rw [h2] at hi
      simp only [Option.map_some, Option.some.injEq, Prod.mk.injEq] at hi
      obtain ⟨p1, p2, p3⟩ := hi
      unfold method
      have p0 : m.path = #[] := by simpa using p1
      have hn : ∀ nm : String, Builtin.ssaWrapNilChk_ #[139] 139 #[.pointer (some ⟨R, 0, none⟩), strVal "", strVal nm] = pure (.pointer (some ⟨R, 0, none⟩)) := fun _ => rfl
      have ha : (isAgg 137).run Tryz.prog w = .ok false w := by kernel_rfl
      simp [typeInfo, h1, h2, p0, p3, follow, receiverAt, Place.get, asAddr, go_sem, h, ha, hn, loadVar]


/-- The world behind a swap. -/
def swW (w : World) (g i j : Nat) (x y : ByteArray) (u v : Int) : World :=
  ((((w.setCell ⟨g, i * 2, none⟩ (.string y)).setCell ⟨g, i * 2 + 1, none⟩ (.int .i64 v)).setCell ⟨g, j * 2, none⟩ (.string x)).setCell ⟨g, j * 2 + 1, none⟩ (.int .i64 u)).drew

theorem swW_heap {w : World} {g : Nat} {cu : Array Value} {T : TypeId} (i j : Nat) (x y : ByteArray) (u v : Int) (h : w.heap[g]? = some (.cells cu T (0, 0))) :
    (swW w g i j x y u v).heap[g]? = some (.cells ((((cu.setIfInBounds (i * 2) (.string y)).setIfInBounds (i * 2 + 1) (.int .i64 v)).setIfInBounds (j * 2) (.string x)).setIfInBounds (j * 2 + 1) (.int .i64 u)) T (0, 0)) :=
  u_heap_set (i := j * 2 + 1) (u_heap_set (i := j * 2) (u_heap_set (i := i * 2 + 1) (u_heap_set (i := i * 2) h _) _) _) _

theorem swW_keep (w : World) (g i j : Nat) (x y : ByteArray) (u v : Int) : u_KeepB (fun k => k = g) w (swW w g i j x y u v) := by
  have h := (((u_KeepB.of_set (p := fun k => k = g) w (i * 2) (.string y) rfl).trans (u_KeepB.of_set _ (i * 2 + 1) (.int .i64 v) rfl)).trans (u_KeepB.of_set _ (j * 2) (.string x) rfl)).trans (u_KeepB.of_set _ (j * 2 + 1) (.int .i64 u) rfl)
  exact ⟨h.os, h.tape, h.output, h.size, h.block⟩

/-- Two rows changed round. -/
def swR (l : List Ro) (i j : Nat) (hi : i < l.length) (hj : j < l.length) : List Ro := (l.toArray.swap i j (by simpa using hi) (by simpa using hj)).toList

theorem swR_len (l : List Ro) (i j : Nat) (hi : i < l.length) (hj : j < l.length) : (swR l i j hi hj).length = l.length := by
  unfold swR
  simp

theorem swR_perm (l : List Ro) (i j : Nat) (hi : i < l.length) (hj : j < l.length) : (swR l i j hi hj).Perm l :=
  (Array.swap_perm (xs := l.toArray) (by simpa using hi) (by simpa using hj)).toList

theorem swR_get (l : List Ro) (i j k : Nat) (hi : i < l.length) (hj : j < l.length) (hk : k < (swR l i j hi hj).length) : (swR l i j hi hj)[k] = if k = i then l[j] else if k = j then l[i] else l[k]'(by rw [swR_len] at hk; exact hk) := by
  unfold swR
  simp only [List.swap_toArray, List.getElem_set]
  by_cases h2 : k = j
  · subst h2
    rw [if_pos rfl]
    by_cases h1 : k = i
    · subst h1
      rw [if_pos rfl]
    · rw [if_neg h1, if_pos rfl]
  · rw [if_neg (fun e => h2 e.symm), if_neg h2]
    by_cases h1 : k = i
    · rw [if_pos h1.symm, if_pos h1]
    · rw [if_neg (fun e => h1 e.symm), if_neg h1]

def keyF (l : List Ro) : Nat → Int := fun k => if h : k < l.length then l[k].til else 0

theorem keyF_lt {l : List Ro} {k : Nat} (h : k < l.length) : keyF l k = l[k].til := dif_pos h
theorem keyF_ge {l : List Ro} {k : Nat} (h : ¬ k < l.length) : keyF l k = 0 := dif_neg h

theorem swR_key (l : List Ro) (i j : Nat) (hi : i < l.length) (hj : j < l.length) : keyF (swR l i j hi hj) = swF (keyF l) i j := by
  funext k
  by_cases h1 : k = i
  · subst h1
    rw [swF_l, keyF_lt hj, keyF_lt (by rw [swR_len]; exact hi), swR_get, if_pos rfl]
  · by_cases h2 : k = j
    · subst h2
      rw [swF_r, keyF_lt hi, keyF_lt (by rw [swR_len]; exact hj), swR_get, if_neg h1, if_pos rfl]
    · rw [swF_o h1 h2]
      by_cases h : k < l.length
      · rw [keyF_lt h, keyF_lt (by rw [swR_len]; exact h), swR_get, if_neg h1, if_neg h2]
      · rw [keyF_ge h, keyF_ge (by rw [swR_len]; exact h)]

set_option maxRecDepth 8000 in
theorem cWSwap (g c n i j : Nat) (x y : ByteArray) (u v : Int) (w : World) (ci0 : w.cell? ⟨g, i * 2, none⟩ = some (.string x)) (ci1 : w.cell? ⟨g, i * 2 + 1, none⟩ = some (.int .i64 u)) (cj0 : w.cell? ⟨g, j * 2, none⟩ = some (.string y)) (cj1 : w.cell? ⟨g, j * 2 + 1, none⟩ = some (.int .i64 v))
    (hf : ∀ o, w.frozen? ⟨g, o, none⟩ = false) (hi : i < n) (hj : j < n) :
    Calls Tryz.prog 189 #[.slice (some ⟨g, 0, none⟩) n c, .int .i64 (i : Int), .int .i64 (j : Int)] w fun e w' => e = .returned (.tuple #[]) ∧ w' = swW w g i j x y u v := by
  have hi1 : (i : Int) < (n : Int) := by omega
  have hj1 : (j : Int) < (n : Int) := by omega
  have f1 := hf (i * 2)
  have f2 := hf (i * 2 + 1)
  have f3 := hf (j * 2)
  have f4 := hf (j * 2 + 1)
  clear hf hi hj
  by_cases hij : i = j
  case pos =>
    subst hij
    obtain rfl : x = y := by rw [ci0] at cj0; injection cj0 with cj0; injection cj0
    obtain rfl : u = v := by rw [ci1] at cj1; injection cj1 with cj1; injection cj1
    go_enter Tryz.func189, Tryz.ntmps189
    go_wp2_with fail
    go_region
    all_goals
      go_wp2_with fail
      go_end0
      exact ⟨rfl, rfl⟩
  have hji : ¬ j = i := fun e => hij e.symm
  have n1 : ¬ i * 2 = j * 2 := by omega
  have n2 : ¬ j * 2 = i * 2 := by omega
  have n3 : ¬ i * 2 + 1 = j * 2 := by omega
  have n4 : ¬ j * 2 = i * 2 + 1 := by omega
  have n5 : ¬ i * 2 = j * 2 + 1 := by omega
  have n6 : ¬ j * 2 + 1 = i * 2 := by omega
  go_enter Tryz.func189, Tryz.ntmps189
  go_wp2_with fail
  go_region
  all_goals
    go_wp2_with fail
    go_end0
    exact ⟨rfl, rfl⟩

theorem get_set {cu : Array Value} {a b : Nat} {v : Value} (ha : a < cu.size) : (cu.setIfInBounds a v)[b]? = if a = b then some v else cu[b]? := by
  rw [Array.getElem?_setIfInBounds]
  by_cases h : a = b
  · subst h
    rw [if_pos rfl, if_pos rfl, if_pos ha]
  · rw [if_neg h, if_neg h]

theorem lt_of_some {cu : Array Value} {a : Nat} {v : Value} (h : cu[a]? = some v) : a < cu.size := by
  rcases Nat.lt_or_ge a cu.size with q | q
  · exact q
  · rw [Array.getElem?_eq_none q] at h
    cases h

theorem cells_sw {cu : Array Value} {l : List Ro} {i j : Nat} (h : RoCells cu 0 l) (hi : i < l.length) (hj : j < l.length) :
    RoCells ((((cu.setIfInBounds (i * 2) (.string l[j].id)).setIfInBounds (i * 2 + 1) (.int .i64 l[j].til)).setIfInBounds (j * 2) (.string l[i].id)).setIfInBounds (j * 2 + 1) (.int .i64 l[i].til)) 0 (swR l i j hi hj) := by
  intro m hm
  have hm' : m < l.length := by rw [swR_len] at hm; exact hm
  obtain ⟨m0, m1⟩ := h m hm'
  obtain ⟨i0, i1⟩ := h i hi
  obtain ⟨j0, j1⟩ := h j hj
  rw [Nat.zero_add] at *
  have a1 := lt_of_some i0
  have a2 := lt_of_some i1
  have a3 := lt_of_some j0
  have a4 := lt_of_some j1
  rw [swR_get]
  rw [get_set (by simpa using a4), get_set (by simpa using a3), get_set (by simpa using a2), get_set (by simpa using a1), get_set (by simpa using a4), get_set (by simpa using a3), get_set (by simpa using a2), get_set (by simpa using a1)]
  by_cases q2 : m = j
  · subst q2
    by_cases q1 : m = i
    · subst q1
      exact ⟨by rw [if_neg (by omega), if_pos rfl, if_pos rfl], by rw [if_pos rfl, if_pos rfl]⟩
    · exact ⟨by rw [if_neg (by omega), if_pos rfl, if_neg q1, if_pos rfl], by rw [if_pos rfl, if_neg q1, if_pos rfl]⟩
  · by_cases q1 : m = i
    · subst q1
      exact ⟨by rw [if_neg (by omega), if_neg (by omega), if_neg (by omega), if_pos rfl, if_pos rfl], by rw [if_neg (by omega), if_neg (by omega), if_pos rfl, if_pos rfl]⟩
    · exact ⟨by rw [if_neg (by omega), if_neg (by omega), if_neg (by omega), if_neg (by omega), if_neg q1, if_neg q2]; exact m0, by rw [if_neg (by omega), if_neg (by omega), if_neg (by omega), if_neg (by omega), if_neg q1, if_neg q2]; exact m1⟩

end Go.Proofs.YtgdfeicojgnoaaaGreatDoor
