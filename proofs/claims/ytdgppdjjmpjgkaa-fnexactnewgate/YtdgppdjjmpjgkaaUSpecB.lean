/- Contracts of the specification's l16Copy, l16Enter, Entered, l16Remove, Removed. -/
import Derived.Test.YtdgppdjjmpjgkaaURow
import Derived.Test.YtdgppdjjmpjgkaaULaw
import Derived.Deep.RegionHeld3
namespace Go.Proofs.Ytdgppdjjmpjgkaa
open Go.RowKit
set_option linter.unusedVariables false
set_option linter.unusedSimpArgs false

/-- Two boxes behind w. -/
theorem u_heap2 (w : World) (o1 o2 : Obj) : ((w.alloc o1).alloc o2).heap[w.heap.size]? = some o1 ∧ ((w.alloc o1).alloc o2).heap[w.heap.size + 1]? = some o2 := by
  have h1 := heap_alloc_new w o1
  have h2 := heap_alloc_new (w.alloc o1) o2
  rw [World.size_alloc] at h2
  exact ⟨(Below.heap_alloc _ _ _ (by simp)).trans h1, h2⟩

set_option maxRecDepth 8000 in
set_option maxHeartbeats 4000000 in
theorem cCopyS (t : Tb) (a : Option Addr) (cap : Nat) (w : World) (hR : RoRow w a t.rows) (hn : t.rows.length ≤ 100000) :
    Calls Try.prog 54 #[tbV t a cap] w fun e w' => ∃ g c, e = .returned (tbV t (some ⟨g, 0, none⟩) c) ∧ RoOwn w' w.heap.size g c t.rows ∧ Below w.heap.size w w' := by
  obtain ⟨m, l⟩ := t
  unfold RoOwn
  simp only at hR hn
  simp only [tbV]
  obtain ⟨i0, hi, hz0, hz1, hz2⟩ := info_parts infoRoW
  have HI := hid (And.intro hi (And.intro hz0 (And.intro hz1 hz2)))
  obtain ⟨n, hnn⟩ : ∃ n, l.length = n := ⟨_, rfl⟩
  have HS0 := hid (hR.sr (n := n) (c := cap) hnn)
  rw [hnn] at hn ⊢
  obtain ⟨b1, b2⟩ := u_heap2 w (.cells #[.int .i64 m, .slice a n cap] 33) (.cells #[.int .i64 0, .slice none 0 0] 33)
  have HB0 := hid (((Below.refl w.heap.size w).alloc (Nat.le_refl _) (.cells #[.int .i64 m, .slice a n cap] 33)).alloc (by simp) (.cells #[.int .i64 0, .slice none 0 0] 33))
  obtain ⟨W0, hW0⟩ : ∃ W0, ((w.alloc (.cells #[.int .i64 m, .slice a n cap] 33)).alloc (.cells #[.int .i64 0, .slice none 0 0] 33)) = W0 := ⟨_, rfl⟩
  rw [hW0] at b1 b2 HB0
  obtain ⟨B, hB⟩ : ∃ B, w.heap.size = B := ⟨_, rfl⟩
  rw [hB] at b1 b2
  have HM1 := hid b1
  have HM2 := hid b2
  have HSr := hid (HS0.out.below HB0.out)
  clear hi hz0 hz1 hz2 hR hnn b1 b2 HS0
  go_enter Try.func54, Try.ntmps54
  go_wp2_with fail
  obtain ⟨⟨f0, f1⟩, f2, f3⟩ := u_box2f HM1.out
  obtain ⟨⟨k0, k1⟩, k2, k3⟩ := u_box2f HM2.out
  have HBx := hid ((Below.refl W0.heap.size W0).alloc (Nat.le_refl _) (.cells #[] 74))
  obtain ⟨⟨p0, p1⟩, p2, p3⟩ := u_box2f (u_blk_below HM1.out HBx.out)
  obtain ⟨⟨q0, q1⟩, q2, q3⟩ := u_box2f (u_blk_below HM2.out HBx.out)
  have HBc := hid ((Below.refl W0.heap.size W0).drew)
  go_region_law (first
      | (refine u_step_src rfl (.tmp 5) (.tmp 7) _ rfl 74 i0 _ 2 24 Try.underlying31 HI.out.1 HI.out.2.1 HI.out.2.2.1 HI.out.2.2.2 rfl (by decide) W0.heap.size W0.heap.size 0 0 n [] (roC l) (.slice a n cap) (by simp [Act.eval, Act.put]) (by simp [Act.eval, Act.put]) (u_own_new W0.drew _ _) (HSr.out.below (HBc.out.alloc HBc.out.size _)) (roC_one l) (by omega) (by omega) (HBc.out.alloc HBc.out.size _).size n (by omega) (roC l) rfl ?_; intro g6 c6 w6 ho6 hb6 hg6; have HO6 := hid ho6; have HB6 := hid ((HBc.out.alloc HBc.out.size (.cells #[] 74)).trans hb6); obtain ⟨⟨r0, r1⟩, r2, r3⟩ := u_box2f (u_blk_below HM1.out HB6.out); obtain ⟨⟨s0, s1⟩, s2, s3⟩ := u_box2f (u_blk_below HM2.out HB6.out); clear ho6 hb6 hg6))
  all_goals
    have HD := hid ((show B + 1 < W0.heap.size from lt_of_heap HM2.out))
    have HW := hid ((HB0.out.trans (HB6.out.mono HB0.out.size)))
    have HO7 := hid (u_own_base HO6.out (show B ≤ W0.heap.size by have := HD.out; omega))
    go_wp2_with fail
    refine bodyPost_ret (v := .agg #[.int .i64 m, .slice (some ⟨g6, 0, none⟩) n c6]) (by simp [results, Try.results54, go_sem, r0, r1, s0, s1]) rfl ⟨g6, c6, rfl, ?_, ?_⟩
    · have hg6 : (Value.slice (some ⟨g6, 0, none⟩) n c6).ownBlock ≠ some (B + 1) := fun e => by
        have h1 := (HO6.out.lt _ e).1
        have h2 := HD.out
        omega
      rw [hB]
      exact u_own_set (u_own_set HO7.out hg6 _ _) hg6 _ _
    · iterate 2 refine Below.setCell ?_ (show w.heap.size ≤ B + 1 by omega) _
      exact HW.out

theorem enterT_there {t : Tb} {id : ByteArray} {til : Int} (h : isR t.rows id = true) : enterT t id til = (t, 1) := if_pos h
theorem enterT_full {t : Tb} {id : ByteArray} {til : Int} (h : isR t.rows id = false) (h2 : (t.rows.length : Int) = t.most) : enterT t id til = (t, 2) := by
  unfold enterT
  rw [if_neg (by rw [h]; exact Bool.false_ne_true), if_pos h2]
theorem enterT_in {t : Tb} {id : ByteArray} {til : Int} (h : isR t.rows id = false) (h2 : ¬ (t.rows.length : Int) = t.most) : enterT t id til = (⟨t.most, insR t.rows (findR t.rows id) ⟨id, til⟩⟩, 0) := by
  unfold enterT
  rw [if_neg (by rw [h]; exact Bool.false_ne_true), if_neg h2]

/-- What l16Enter leaves. -/
def EnterPost (P B : Nat) (T : Tb × Int) (w : World) (e : Ending) (w' : World) : Prop :=
  ∃ g' c', e = .returned (.int .i64 T.2) ∧ w'.heap[P]? = some (.cells #[.int .i64 T.1.most, .slice (some ⟨g', 0, none⟩) T.1.rows.length c'] 33 (0, 0)) ∧ RoOwn w' B g' c' T.1.rows ∧ u_KeepB (fun b => b = P) w w'

end Go.Proofs.Ytdgppdjjmpjgkaa
