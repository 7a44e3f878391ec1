/- The program's gateWith and copiedGate. -/
import Derived.Test.YtdgppdjjmpjgkaaAHd
import Derived.Test.YtdgppdjjmpjgkaaUImE
namespace Go.Proofs.Ytdgppdjjmpjgkaa
open Go.RowKit
set_option linter.unusedVariables false
set_option linter.unusedSimpArgs false

/-- Four boxes laid one behind the other. -/
theorem g_heap4 (w : World) (o1 o2 o3 o4 : Obj) : ((((w.alloc o1).alloc o2).alloc o3).alloc o4).heap[w.heap.size]? = some o1 ∧ ((((w.alloc o1).alloc o2).alloc o3).alloc o4).heap[w.heap.size + 1]? = some o2 ∧ ((((w.alloc o1).alloc o2).alloc o3).alloc o4).heap[w.heap.size + 2]? = some o3 ∧ ((((w.alloc o1).alloc o2).alloc o3).alloc o4).heap[w.heap.size + 3]? = some o4 := by
  obtain ⟨b1, b2, b3⟩ := u_heap3 w o1 o2 o3
  have h4 := heap_alloc_new (((w.alloc o1).alloc o2).alloc o3) o4
  rw [World.size_alloc, World.size_alloc, World.size_alloc] at h4
  exact ⟨(Below.heap_alloc _ _ _ (by simp; try omega)).trans b1, (Below.heap_alloc _ _ _ (by simp; try omega)).trans b2, (Below.heap_alloc _ _ _ (by simp; try omega)).trans b3, h4⟩

set_option maxRecDepth 8000 in
set_option maxHeartbeats 16000000 in
theorem cGateWith (x : ByteArray) (l : List Hd) (ah : Option Addr) (ch : Nat) (sk nw am0 : Int) (aa0 : Option Addr) (na0 ca0 : Nat) (rm0 : Int) (ar0 : Option Addr) (nr0 cr0 : Nat) (am : Int) (aa : Option Addr) (na ca : Nat) (rm : Int) (ar : Option Addr) (nr cr : Nat) (w : World) (hR : HdRow w ah l) (hz : HdSz 1048576 l) (hn : l.length ≤ 100000) (hx : x.size ≤ 1048576) :
    Calls Try.prog 56 #[.agg #[.string x, .slice ah l.length ch, .int .i64 sk, .int .i64 nw, .int .i64 am0, .slice aa0 na0 ca0, .int .i64 rm0, .slice ar0 nr0 cr0], .agg #[.int .i64 am, .slice aa na ca], .agg #[.int .i64 rm, .slice ar nr cr]] w fun e w' => ∃ ah' ch', e = .returned (.agg #[.string x, .slice ah' l.length ch', .int .i64 sk, .int .i64 nw, .int .i64 am, .slice aa na ca, .int .i64 rm, .slice ar nr cr]) ∧ w'.ownsRow w.heap.size 51 4 (.slice ah' l.length ch') l.length (hdC l) ∧ Below w.heap.size w w' := by
  have C1 := hid (fun wx => c_strings_Clone x wx hx)
  have C2 := hid (fun wx (h : Below w.heap.size w wx) => cCopiedHands ah ch l wx (hR.below h) hz hn)
  clear hR hz hn hx
  obtain ⟨nh, hnn⟩ : ∃ n, l.length = n := ⟨_, rfl⟩
  rw [hnn] at C2 ⊢
  clear hnn
  obtain ⟨b1, b2, b3, b4⟩ := g_heap4 w (.cells #[.string x, .slice ah nh ch, .int .i64 sk, .int .i64 nw, .int .i64 am0, .slice aa0 na0 ca0, .int .i64 rm0, .slice ar0 nr0 cr0] 35) (.cells #[.int .i64 am, .slice aa na ca] 33) (.cells #[.int .i64 rm, .slice ar nr cr] 33) (.cells #[.string ⟨#[]⟩, .slice none 0 0, .int .i64 0, .int .i64 0, .int .i64 0, .slice none 0 0, .int .i64 0, .slice none 0 0] 35)
  have HB0 := hid (((((Below.refl w.heap.size w).alloc (Nat.le_refl _) (.cells #[.string x, .slice ah nh ch, .int .i64 sk, .int .i64 nw, .int .i64 am0, .slice aa0 na0 ca0, .int .i64 rm0, .slice ar0 nr0 cr0] 35)).alloc (by simp) (.cells #[.int .i64 am, .slice aa na ca] 33)).alloc (by simp; try omega) (.cells #[.int .i64 rm, .slice ar nr cr] 33)).alloc (by simp; try omega) (.cells #[.string ⟨#[]⟩, .slice none 0 0, .int .i64 0, .int .i64 0, .int .i64 0, .slice none 0 0, .int .i64 0, .slice none 0 0] 35))
  obtain ⟨W0, hW0⟩ : ∃ W0, ((((w.alloc (.cells #[.string x, .slice ah nh ch, .int .i64 sk, .int .i64 nw, .int .i64 am0, .slice aa0 na0 ca0, .int .i64 rm0, .slice ar0 nr0 cr0] 35)).alloc (.cells #[.int .i64 am, .slice aa na ca] 33)).alloc (.cells #[.int .i64 rm, .slice ar nr cr] 33)).alloc (.cells #[.string ⟨#[]⟩, .slice none 0 0, .int .i64 0, .int .i64 0, .int .i64 0, .slice none 0 0, .int .i64 0, .slice none 0 0] 35)) = W0 := ⟨_, rfl⟩
  rw [hW0] at b1 b2 b3 b4 HB0
  obtain ⟨B, hB⟩ : ∃ B, w.heap.size = B := ⟨_, rfl⟩
  rw [hB] at b1 b2 b3 b4
  have HM1 := hid b1
  have HM2 := hid b2
  have HM3 := hid b3
  have HM4 := hid b4
  clear b1 b2 b3 b4
  have HXX := hid (fun W' (h : Below W0.heap.size W0 W') => And.intro (g_box8f (u_blk_below HM1.out h)).1 (And.intro (u_box2f (u_blk_below HM2.out h)).1 (And.intro (u_box2f (u_blk_below HM3.out h)).1 (g_box8f (u_blk_below HM4.out h)))))
  obtain ⟨⟨f0, f1, f2, f3, f4, f5, f6, f7⟩, ⟨p0, p1⟩, ⟨q0, q1⟩, ⟨k0, k1, k2, k3, k4, k5, k6, k7⟩, kf⟩ := HXX.out _ (Below.refl _ _)
  clear kf
  go_enter Try.func56, Try.ntmps56
  go_wp2_with fail
  have HLT := hid (show B + 3 < W0.heap.size from lt_of_heap HM4.out)
  have HBf := hid ((Below.refl W0.heap.size W0).drew)
  have HBc := hid (HBf.out.mono (Nat.le_of_lt HLT.out))
  have HSX := hid (show ∀ W', Below (B + 3) W0 W' → W'.cell? ⟨B, 0, none⟩ = some (.string x) ∧ W'.cell? ⟨B, 1, none⟩ = some (.slice ah nh ch) ∧ W'.cell? ⟨B, 2, none⟩ = some (.int .i64 sk) ∧ W'.cell? ⟨B, 3, none⟩ = some (.int .i64 nw) ∧ W'.cell? ⟨B + 1, 0, none⟩ = some (.int .i64 am) ∧ W'.cell? ⟨B + 1, 1, none⟩ = some (.slice aa na ca) ∧ W'.cell? ⟨B + 2, 0, none⟩ = some (.int .i64 rm) ∧ W'.cell? ⟨B + 2, 1, none⟩ = some (.slice ar nr cr) from fun W' hb => by
    have m1 := (hb.block B (by omega)).trans HM1.out
    have m2 := (hb.block (B + 1) (by omega)).trans HM2.out
    have m3 := (hb.block (B + 2) (by omega)).trans HM3.out
    exact ⟨(g_box8f m1).1.1, (g_box8f m1).1.2.1, (g_box8f m1).1.2.2.1, (g_box8f m1).1.2.2.2.1, (u_box2f m2).1.1, (u_box2f m2).1.2, (u_box2f m3).1.1, (u_box2f m3).1.2⟩)
  clear f0 f1 f2 f3 f4 f5 f6 f7 p0 p1 q0 q1 k0 k1 k2 k3 k4 k5 k6 k7
  go_region_held3 (fun w' => w'.cell? ⟨B, 0, none⟩ = some (.string x) ∧ w'.cell? ⟨B, 1, none⟩ = some (.slice ah nh ch) ∧ w'.cell? ⟨B, 2, none⟩ = some (.int .i64 sk) ∧ w'.cell? ⟨B, 3, none⟩ = some (.int .i64 nw) ∧ w'.cell? ⟨B + 1, 0, none⟩ = some (.int .i64 am) ∧ w'.cell? ⟨B + 1, 1, none⟩ = some (.slice aa na ca) ∧ w'.cell? ⟨B + 2, 0, none⟩ = some (.int .i64 rm) ∧ w'.cell? ⟨B + 2, 1, none⟩ = some (.slice ar nr cr)) (first | with_reducible exact HSX.out _ HBc.out | (with_reducible refine HSX.out _ ?_; (iterate 8 refine Below.setCell ?_ (Nat.le_refl (B + 3)) _); with_reducible exact HBc.out))
    (first
      | (go_at_call 71; refine (C1.out _).mono ?_; rintro e w6 ⟨rfl, hb6⟩; replace HBf := hid (bb HBf.out hb6); replace HBc := hid (HBf.out.mono (Nat.le_of_lt HLT.out)); clear hb6)
      | (go_at_call 72; refine (C2.out _ (bb HB0.out HBf.out)).mono ?_; rintro e w7 ⟨a7, c7, rfl, ho7, hb7⟩; have HO7 := hid ho7; have HS6 := hid HBf.out.size; replace HBf := hid (bb HBf.out hb7); replace HBc := hid (HBf.out.mono (Nat.le_of_lt HLT.out)); have HB7 := HBf; obtain ⟨_, _, _, ⟨kb0, kb1, kb2, kb3, kb4, kb5, kb6, kb7⟩, kbf⟩ := HXX.out _ HB7.out; have kf0 := kbf 0; have kf1 := kbf 1; have kf2 := kbf 2; have kf3 := kbf 3; have kf4 := kbf 4; have kf5 := kbf 5; have kf6 := kbf 6; have kf7 := kbf 7; clear ho7 hb7 kbf))
  all_goals
    have HD := hid ((show B + 3 < W0.heap.size from lt_of_heap HM4.out))
    have HW := hid ((HB0.out.trans (HB7.out.mono HB0.out.size)))
    go_wp2_with fail
    refine bodyPost_ret (v := .agg #[.string x, .slice a7 nh c7, .int .i64 sk, .int .i64 nw, .int .i64 am, .slice aa na ca, .int .i64 rm, .slice ar nr cr]) (by simp [results, Try.results56, go_sem, kb0, kb1, kb2, kb3, kb4, kb5, kb6, kb7]) rfl ⟨a7, c7, rfl, ?_, ?_⟩
    · have hBw : B ≤ w6.heap.size := by have := HD.out; have := HS6.out; omega
      rw [hB]
      have hDl : B + 3 < w6.heap.size := by have := HD.out; have := HS6.out; omega
      exact u_own_base (u_own_keep (u_own_keep (u_own_keep (u_own_keep (u_own_keep (u_own_keep (u_own_keep (u_own_keep HO7.out hDl _ _) hDl _ _) hDl _ _) hDl _ _) hDl _ _) hDl _ _) hDl _ _) hDl _ _) hBw
    · iterate 8 refine Below.setCell ?_ (show w.heap.size ≤ B + 3 by omega) _
      exact HW.out

end Go.Proofs.Ytdgppdjjmpjgkaa
