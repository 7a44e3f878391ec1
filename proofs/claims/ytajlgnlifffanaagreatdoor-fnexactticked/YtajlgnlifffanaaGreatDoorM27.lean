/- errors.Is of an error that wraps at most one other, against a sentinel. The program's settled. -/
import Derived.Test.YtajlgnlifffanaaGreatDoorM26
import Derived.Test.YtajlgnlifffanaaGreatDoorM22
namespace Go.Proofs.YtajlgnlifffanaaGreatDoor
open Go.RowKit Go.Extern.Stop Go.Stop Go.Extern
set_option linter.unusedVariables false
set_option linter.unusedSimpArgs false

set_option maxRecDepth 8000 in
theorem cIsNil (b : Addr) (w : World) :
    Calls Tryz.prog 66 #[.nilIface, erV (.base b)] w fun e w' => e = .returned (.bool false) ∧ w' = w := by
  unfold erV
  have hn := run_eql_iface_nil_left (P := Tryz.prog) w 229 (.pointer (some b)) Tryz.underlying58
  go_enter Tryz.func66, Tryz.ntmps66
  go_wp2
  go_ret
  exact ⟨rfl, rfl⟩

set_option maxRecDepth 8000 in
theorem cIsSame (a : Addr) (w : World) :
    Calls Tryz.prog 66 #[erV (.base a), erV (.base a)] w fun e w' => e = .returned (.bool true) ∧ w' = w := by
  unfold erV
  obtain ⟨i, hi, hcmp⟩ := Option.map_eq_some_iff.1 x_comp
  obtain ⟨j, hj, hjs⟩ := Option.map_eq_some_iff.1 x_size
  have h8 := @run_callFunc_extern Tryz.prog 103 _ Extern.ReflectliteType.typeOf Tryz.func103 (by kernel_rfl) (by kernel_rfl) (by kernel_rfl) (by kernel_rfl)
  have h32 := @run_callFunc_extern Tryz.prog 198 _ (Extern.ReflectliteType.method fun t => do Extern.Rtype.noPackHeld "Comparable" t; pure (.bool (← typeInfo t).comparable)) Tryz.func198 (by kernel_rfl) (by kernel_rfl) (by kernel_rfl) (by kernel_rfl)
  have tT := x_typeOf
  have cT := x_comparable
  have mR := x_method
  generalize (Extern.ReflectliteType.method fun t => do Extern.Rtype.noPackHeld "Comparable" t; pure (.bool (← typeInfo t).comparable)) = M at h32 cT
  have heq := run_eql_iface_ptr_same (P := Tryz.prog) w a Tryz.underlying58 Tryz.underlying229 hi hcmp hj
  go_enter Tryz.func66, Tryz.ntmps66
  go_wp2
  refine wp_loop_rounds 1 ?_
  rw [rounds_succ]
  go_wp2
  go_ret
  exact ⟨rfl, rfl⟩

set_option maxRecDepth 8000 in
theorem cIsOther (a b : Addr) (ca cb : Array Value) (ta tb : TypeId) (w : World) (hne : a ≠ b) (ha : w.heap[a.block]? = some (.cells ca ta (0, 0))) (hb : w.heap[b.block]? = some (.cells cb tb (0, 0))) :
    Calls Tryz.prog 66 #[erV (.base a), erV (.base b)] w fun e w' => e = .returned (.bool false) ∧ w' = w := by
  unfold erV
  obtain ⟨i, hi, hcmp⟩ := Option.map_eq_some_iff.1 x_comp
  obtain ⟨j, hj, hjs⟩ := Option.map_eq_some_iff.1 x_size
  have h8 := @run_callFunc_extern Tryz.prog 103 _ Extern.ReflectliteType.typeOf Tryz.func103 (by kernel_rfl) (by kernel_rfl) (by kernel_rfl) (by kernel_rfl)
  have h32 := @run_callFunc_extern Tryz.prog 198 _ (Extern.ReflectliteType.method fun t => do Extern.Rtype.noPackHeld "Comparable" t; pure (.bool (← typeInfo t).comparable)) Tryz.func198 (by kernel_rfl) (by kernel_rfl) (by kernel_rfl) (by kernel_rfl)
  have tT := x_typeOf
  have cT := x_comparable
  have mR := x_method
  generalize (Extern.ReflectliteType.method fun t => do Extern.Rtype.noPackHeld "Comparable" t; pure (.bool (← typeInfo t).comparable)) = M at h32 cT
  have nE := x_noIsE
  have uE := x_noUnE
  have vE := x_noUsE
  have heq := run_eql_iface_ptr_other (P := Tryz.prog) w Tryz.underlying58 Tryz.underlying229 hi hcmp hj (by rw [hjs]; decide) hne ha hb
  go_enter Tryz.func66, Tryz.ntmps66
  go_wp2
  refine wp_loop_rounds 1 ?_
  rw [rounds_succ]
  go_wp2
  go_ret
  exact ⟨rfl, rfl⟩

end Go.Proofs.YtajlgnlifffanaaGreatDoor

namespace Go.Proofs.YtajlgnlifffanaaGreatDoor
open Go.RowKit
set_option linter.unusedVariables false
set_option linter.unusedSimpArgs false

/-- The two sentinels, and where they lie. -/
def SenAt (a0 a1 : Addr) (w : World) : Prop :=
  (∃ t fr, w.heap[0]? = some (.cells #[erV (.base a0)] t fr)) ∧ (∃ t fr, w.heap[1]? = some (.cells #[erV (.base a1)] t fr)) ∧ a0 ≠ a1 ∧
    (∃ c t, w.heap[a0.block]? = some (.cells c t (0, 0))) ∧ ∃ c t, w.heap[a1.block]? = some (.cells c t (0, 0))

theorem SenAt.below {a0 a1 : Addr} {w w' : World} (h : SenAt a0 a1 w) (hb : Below w.heap.size w w') : SenAt a0 a1 w' := by
  obtain ⟨⟨t, fr, h0⟩, ⟨s, fs, h1⟩, hn, ⟨c, u, h2⟩, d, v, h3⟩ := h
  exact ⟨⟨t, fr, u_blk_below h0 hb⟩, ⟨s, fs, u_blk_below h1 hb⟩, hn, ⟨c, u, u_blk_below h2 hb⟩, d, v, u_blk_below h3 hb⟩

theorem SenAt.cells {a0 a1 : Addr} {w : World} (h : SenAt a0 a1 w) : w.cell? ⟨0, 0, none⟩ = some (.iface 229 (.pointer (some a0))) ∧ w.cell? ⟨1, 0, none⟩ = some (.iface 229 (.pointer (some a1))) := by
  obtain ⟨⟨t, fr, h0⟩, ⟨s, fs, h1⟩, _⟩ := h
  exact ⟨by rw [cell_of_row _ _ _ _ _ _ h0]; rfl, by rw [cell_of_row _ _ _ _ _ _ h1]; rfl⟩

set_option maxRecDepth 8000 in
set_option maxHeartbeats 8000000 in
theorem cSettledNil (x : ByteArray) (ah : Option Addr) (nh ch : Nat) (sk nw am : Int) (aa : Option Addr) (na ca : Nat) (rm : Int) (ar : Option Addr) (nr cr : Nat) (x2 : ByteArray) (ah2 : Option Addr) (nh2 ch2 : Nat) (sk2 nw2 am2 : Int) (aa2 : Option Addr) (na2 ca2 : Nat) (rm2 : Int) (ar2 : Option Addr) (nr2 cr2 : Nat) (w : World) :
    Calls Tryz.prog 27 #[.agg #[.string x, .slice ah nh ch, .int .i64 sk, .int .i64 nw, .int .i64 am, .slice aa na ca, .int .i64 rm, .slice ar nr cr], .agg #[.string x2, .slice ah2 nh2 ch2, .int .i64 sk2, .int .i64 nw2, .int .i64 am2, .slice aa2 na2 ca2, .int .i64 rm2, .slice ar2 nr2 cr2], .nilIface] w fun e w' => e = .returned (.agg #[.string x2, .slice ah2 nh2 ch2, .int .i64 sk2, .int .i64 nw2, .int .i64 am2, .slice aa2 na2 ca2, .int .i64 rm2, .slice ar2 nr2 cr2]) ∧ Below w.heap.size w w' := by
  obtain ⟨b1, b2, b3⟩ := u_heap3 w (.cells #[.string x, .slice ah nh ch, .int .i64 sk, .int .i64 nw, .int .i64 am, .slice aa na ca, .int .i64 rm, .slice ar nr cr] 29) (.cells #[.string x2, .slice ah2 nh2 ch2, .int .i64 sk2, .int .i64 nw2, .int .i64 am2, .slice aa2 na2 ca2, .int .i64 rm2, .slice ar2 nr2 cr2] 29) (.cells #[.string ⟨#[]⟩, .slice none 0 0, .int .i64 0, .int .i64 0, .int .i64 0, .slice none 0 0, .int .i64 0, .slice none 0 0] 29)
  have HB0 := hid ((((Below.refl w.heap.size w).alloc (Nat.le_refl _) (.cells #[.string x, .slice ah nh ch, .int .i64 sk, .int .i64 nw, .int .i64 am, .slice aa na ca, .int .i64 rm, .slice ar nr cr] 29)).alloc (by simp) (.cells #[.string x2, .slice ah2 nh2 ch2, .int .i64 sk2, .int .i64 nw2, .int .i64 am2, .slice aa2 na2 ca2, .int .i64 rm2, .slice ar2 nr2 cr2] 29)).alloc (by simp; omega) (.cells #[.string ⟨#[]⟩, .slice none 0 0, .int .i64 0, .int .i64 0, .int .i64 0, .slice none 0 0, .int .i64 0, .slice none 0 0] 29))
  obtain ⟨W0, hW0⟩ : ∃ W0, ((w.alloc (.cells #[.string x, .slice ah nh ch, .int .i64 sk, .int .i64 nw, .int .i64 am, .slice aa na ca, .int .i64 rm, .slice ar nr cr] 29)).alloc (.cells #[.string x2, .slice ah2 nh2 ch2, .int .i64 sk2, .int .i64 nw2, .int .i64 am2, .slice aa2 na2 ca2, .int .i64 rm2, .slice ar2 nr2 cr2] 29)).alloc (.cells #[.string ⟨#[]⟩, .slice none 0 0, .int .i64 0, .int .i64 0, .int .i64 0, .slice none 0 0, .int .i64 0, .slice none 0 0] 29) = W0 := ⟨_, rfl⟩
  rw [hW0] at b1 b2 b3 HB0
  obtain ⟨B, hB⟩ : ∃ B, w.heap.size = B := ⟨_, rfl⟩
  rw [hB] at b1 b2 b3
  have HM1 := hid b1
  have HM2 := hid b2
  have HM3 := hid b3
  clear b1 b2 b3
  obtain ⟨⟨j0, j1, j2, j3, j4, j5, j6, j7⟩, jf⟩ := g_box8f HM2.out
  clear jf
  obtain ⟨⟨k0, k1, k2, k3, k4, k5, k6, k7⟩, kf⟩ := g_box8f HM3.out
  have kf0 := kf 0
  have kf1 := kf 1
  have kf2 := kf 2
  have kf3 := kf 3
  have kf4 := kf 4
  have kf5 := kf 5
  have kf6 := kf 6
  have kf7 := kf 7
  clear kf
  go_enter Tryz.func27, Tryz.ntmps27
  go_wp2_with fail
  refine bodyPost_ret (v := .agg #[.string x2, .slice ah2 nh2 ch2, .int .i64 sk2, .int .i64 nw2, .int .i64 am2, .slice aa2 na2 ca2, .int .i64 rm2, .slice ar2 nr2 cr2]) (by simp [results, Tryz.results27, go_sem, k0, k1, k2, k3, k4, k5, k6, k7]) rfl ⟨rfl, ?_⟩
  iterate 8 refine Below.setCell ?_ (show w.heap.size ≤ B + 2 by omega) _
  exact HB0.out

set_option maxRecDepth 8000 in
set_option maxHeartbeats 8000000 in
theorem cSettledBad (x : ByteArray) (ah : Option Addr) (nh ch : Nat) (sk nw am : Int) (aa : Option Addr) (na ca : Nat) (rm : Int) (ar : Option Addr) (nr cr : Nat) (x2 : ByteArray) (ah2 : Option Addr) (nh2 ch2 : Nat) (sk2 nw2 am2 : Int) (aa2 : Option Addr) (na2 ca2 : Nat) (rm2 : Int) (ar2 : Option Addr) (nr2 cr2 : Nat) (a0 a1 : Addr) (w : World) (hS : SenAt a0 a1 w) :
    Calls Tryz.prog 27 #[.agg #[.string x, .slice ah nh ch, .int .i64 sk, .int .i64 nw, .int .i64 am, .slice aa na ca, .int .i64 rm, .slice ar nr cr], .agg #[.string x2, .slice ah2 nh2 ch2, .int .i64 sk2, .int .i64 nw2, .int .i64 am2, .slice aa2 na2 ca2, .int .i64 rm2, .slice ar2 nr2 cr2], erV (.base a0)] w fun e w' => e = .returned (.agg #[.string ⟨#[]⟩, .slice none 0 0, .int .i64 0, .int .i64 0, .int .i64 0, .slice none 0 0, .int .i64 0, .slice none 0 0]) ∧ Below w.heap.size w w' := by
  obtain ⟨b1, b2, b3⟩ := u_heap3 w (.cells #[.string x, .slice ah nh ch, .int .i64 sk, .int .i64 nw, .int .i64 am, .slice aa na ca, .int .i64 rm, .slice ar nr cr] 29) (.cells #[.string x2, .slice ah2 nh2 ch2, .int .i64 sk2, .int .i64 nw2, .int .i64 am2, .slice aa2 na2 ca2, .int .i64 rm2, .slice ar2 nr2 cr2] 29) (.cells #[.string ⟨#[]⟩, .slice none 0 0, .int .i64 0, .int .i64 0, .int .i64 0, .slice none 0 0, .int .i64 0, .slice none 0 0] 29)
  have HB0 := hid ((((Below.refl w.heap.size w).alloc (Nat.le_refl _) (.cells #[.string x, .slice ah nh ch, .int .i64 sk, .int .i64 nw, .int .i64 am, .slice aa na ca, .int .i64 rm, .slice ar nr cr] 29)).alloc (by simp) (.cells #[.string x2, .slice ah2 nh2 ch2, .int .i64 sk2, .int .i64 nw2, .int .i64 am2, .slice aa2 na2 ca2, .int .i64 rm2, .slice ar2 nr2 cr2] 29)).alloc (by simp; omega) (.cells #[.string ⟨#[]⟩, .slice none 0 0, .int .i64 0, .int .i64 0, .int .i64 0, .slice none 0 0, .int .i64 0, .slice none 0 0] 29))
  obtain ⟨W0, hW0⟩ : ∃ W0, ((w.alloc (.cells #[.string x, .slice ah nh ch, .int .i64 sk, .int .i64 nw, .int .i64 am, .slice aa na ca, .int .i64 rm, .slice ar nr cr] 29)).alloc (.cells #[.string x2, .slice ah2 nh2 ch2, .int .i64 sk2, .int .i64 nw2, .int .i64 am2, .slice aa2 na2 ca2, .int .i64 rm2, .slice ar2 nr2 cr2] 29)).alloc (.cells #[.string ⟨#[]⟩, .slice none 0 0, .int .i64 0, .int .i64 0, .int .i64 0, .slice none 0 0, .int .i64 0, .slice none 0 0] 29) = W0 := ⟨_, rfl⟩
  rw [hW0] at b1 b2 b3 HB0
  obtain ⟨B, hB⟩ : ∃ B, w.heap.size = B := ⟨_, rfl⟩
  rw [hB] at b1 b2 b3
  have HM1 := hid b1
  have HM2 := hid b2
  have HM3 := hid b3
  clear b1 b2 b3
  obtain ⟨⟨k0, k1, k2, k3, k4, k5, k6, k7⟩, kf⟩ := g_box8f HM3.out
  have kf0 := kf 0
  have kf1 := kf 1
  have kf2 := kf 2
  have kf3 := kf 3
  have kf4 := kf 4
  have kf5 := kf 5
  have kf6 := kf 6
  have kf7 := kf 7
  clear kf
  have e0 := (hS.below HB0.out).cells.1
  have CI := hid (fun wx => cIsSame a0 wx)
  unfold erV at CI ⊢
  go_enter Tryz.func27, Tryz.ntmps27
  go_wp2_with fail
  refine (CI.out _).mono ?_
  rintro e w1 ⟨rfl, hw1⟩
  obtain rfl := hw1.symm
  go_wp2_with fail
  refine bodyPost_ret (v := .agg #[.string ⟨#[]⟩, .slice none 0 0, .int .i64 0, .int .i64 0, .int .i64 0, .slice none 0 0, .int .i64 0, .slice none 0 0]) (by simp [results, Tryz.results27, go_sem, k0, k1, k2, k3, k4, k5, k6, k7]) rfl ⟨rfl, ?_⟩
  iterate 8 refine Below.setCell ?_ (show w.heap.size ≤ B + 2 by omega) _
  exact HB0.out

set_option maxRecDepth 8000 in
set_option maxHeartbeats 8000000 in
theorem cSettledOld (g : Gt) (ah : Option Addr) (ch : Nat) (aa : Option Addr) (ca : Nat) (ar : Option Addr) (cr : Nat) (x2 : ByteArray) (ah2 : Option Addr) (nh2 ch2 : Nat) (sk2 nw2 am2 : Int) (aa2 : Option Addr) (na2 ca2 : Nat) (rm2 : Int) (ar2 : Option Addr) (nr2 cr2 : Nat) (a0 a1 : Addr) (w : World) (hS : SenAt a0 a1 w) (hR : GtRow w g ah aa ar) (hz : GtSz 1048576 g) (hn1 : g.hands.length ≤ 100000) (hn2 : g.ask.rows.length ≤ 100000) (hn3 : g.hrd.rows.length ≤ 100000) :
    Calls Tryz.prog 27 #[gtV g ah ch aa ca ar cr, .agg #[.string x2, .slice ah2 nh2 ch2, .int .i64 sk2, .int .i64 nw2, .int .i64 am2, .slice aa2 na2 ca2, .int .i64 rm2, .slice ar2 nr2 cr2], erV (.base a1)] w fun e w' => ∃ ah' ch' aa' ca' ar' cr', e = .returned (gtV g ah' ch' aa' ca' ar' cr') ∧ GtOwn w' w.heap.size g ah' aa' ar' ∧ Below w.heap.size w w' := by
  have CC := hid (fun wx (h : Below w.heap.size w wx) => cCopiedGate g ah ch aa ca ar cr wx (hR.below h) hz hn1 hn2 hn3)
  have HOWN := hid (fun (wx : World) (Bx : Nat) (a b c : Option Addr) (h : GtOwn wx Bx g a b c) (R : Nat) (hR : R < Bx) => own_set8 h hR)
  clear hR hz hn1 hn2 hn3
  unfold gtV at CC ⊢
  generalize g.name = x at *
  generalize g.skew = sk at *
  generalize g.now = nw at *
  generalize g.ask.most = am at *
  generalize g.hrd.most = rm at *
  generalize g.hands.length = nh at *
  generalize g.ask.rows.length = na at *
  generalize g.hrd.rows.length = nr at *
  obtain ⟨b1, b2, b3⟩ := u_heap3 w (.cells #[.string x, .slice ah nh ch, .int .i64 sk, .int .i64 nw, .int .i64 am, .slice aa na ca, .int .i64 rm, .slice ar nr cr] 29) (.cells #[.string x2, .slice ah2 nh2 ch2, .int .i64 sk2, .int .i64 nw2, .int .i64 am2, .slice aa2 na2 ca2, .int .i64 rm2, .slice ar2 nr2 cr2] 29) (.cells #[.string ⟨#[]⟩, .slice none 0 0, .int .i64 0, .int .i64 0, .int .i64 0, .slice none 0 0, .int .i64 0, .slice none 0 0] 29)
  have HB0 := hid ((((Below.refl w.heap.size w).alloc (Nat.le_refl _) (.cells #[.string x, .slice ah nh ch, .int .i64 sk, .int .i64 nw, .int .i64 am, .slice aa na ca, .int .i64 rm, .slice ar nr cr] 29)).alloc (by simp) (.cells #[.string x2, .slice ah2 nh2 ch2, .int .i64 sk2, .int .i64 nw2, .int .i64 am2, .slice aa2 na2 ca2, .int .i64 rm2, .slice ar2 nr2 cr2] 29)).alloc (by simp; omega) (.cells #[.string ⟨#[]⟩, .slice none 0 0, .int .i64 0, .int .i64 0, .int .i64 0, .slice none 0 0, .int .i64 0, .slice none 0 0] 29))
  obtain ⟨W0, hW0⟩ : ∃ W0, ((w.alloc (.cells #[.string x, .slice ah nh ch, .int .i64 sk, .int .i64 nw, .int .i64 am, .slice aa na ca, .int .i64 rm, .slice ar nr cr] 29)).alloc (.cells #[.string x2, .slice ah2 nh2 ch2, .int .i64 sk2, .int .i64 nw2, .int .i64 am2, .slice aa2 na2 ca2, .int .i64 rm2, .slice ar2 nr2 cr2] 29)).alloc (.cells #[.string ⟨#[]⟩, .slice none 0 0, .int .i64 0, .int .i64 0, .int .i64 0, .slice none 0 0, .int .i64 0, .slice none 0 0] 29) = W0 := ⟨_, rfl⟩
  rw [hW0] at b1 b2 b3 HB0
  obtain ⟨B, hB⟩ : ∃ B, w.heap.size = B := ⟨_, rfl⟩
  rw [hB] at b1 b2 b3
  have HM1 := hid b1
  have HM2 := hid b2
  have HM3 := hid b3
  clear b1 b2 b3
  obtain ⟨⟨f0, f1, f2, f3, f4, f5, f6, f7⟩, ff⟩ := g_box8f HM1.out
  clear ff
  have HSx := hid (hS.below HB0.out)
  have e0 := HSx.out.cells.1
  have CI := hid (fun wx (h : SenAt a0 a1 wx) => cIsOther a1 a0 _ _ _ _ wx (Ne.symm h.2.2.1) h.2.2.2.2.choose_spec.choose_spec h.2.2.2.1.choose_spec.choose_spec)
  have HLT := hid (show B + 2 < W0.heap.size from lt_of_heap HM3.out)
  unfold erV at CI ⊢
  go_enter Tryz.func27, Tryz.ntmps27
  go_wp2_with fail
  refine (CI.out _ HSx.out).mono ?_
  rintro e w1 ⟨rfl, hw1⟩
  obtain rfl := hw1.symm
  go_wp2_with fail
  refine (CC.out _ HB0.out).mono ?_
  rintro e w4 ⟨a1', c1, a2, c2, a3, c3, rfl, ho, hb4⟩
  have HO := hid ho
  have HB4 := hid (bb HB0.out hb4)
  have HZ := hid (u_blk_below HM3.out hb4)
  clear ho hb4 f0 f1 f2 f3 f4 f5 f6 f7
  obtain ⟨⟨k0, k1, k2, k3, k4, k5, k6, k7⟩, kf⟩ := g_box8f HZ.out
  have kf0 := kf 0
  have kf1 := kf 1
  have kf2 := kf 2
  have kf3 := kf 3
  have kf4 := kf 4
  have kf5 := kf 5
  have kf6 := kf 6
  have kf7 := kf 7
  clear kf
  go_wp2_with fail
  refine bodyPost_ret (v := .agg #[.string x, .slice a1' nh c1, .int .i64 sk, .int .i64 nw, .int .i64 am, .slice a2 na c2, .int .i64 rm, .slice a3 nr c3]) (by simp [results, Tryz.results27, go_sem, k0, k1, k2, k3, k4, k5, k6, k7]) rfl ⟨a1', c1, a2, c2, a3, c3, rfl, ?_, ?_⟩
  · refine (HOWN.out _ _ _ _ _ HO.out (B + 2) HLT.out _ _ _ _ _ _ _ _).mono ?_
    have := HLT.out
    omega
  · iterate 8 refine Below.setCell ?_ (show w.heap.size ≤ B + 2 by omega) _
    exact HB4.out

end Go.Proofs.YtajlgnlifffanaaGreatDoor
