/- Two tables alike: what the laws' likeTable says of a table and itself, laid elsewhere. -/
import Derived.Test.YtnddphmcagcdiaaULaw
import Derived.Test.YtnddphmcagcdiaaPQuiet
import Derived.Deep.QuietTactic
import Derived.BigQuiet
namespace Go.Proofs.Ytnddphmcagcdiaa
open Go.RowKit
set_option linter.unusedVariables false
set_option linter.unusedSimpArgs false

set_option maxHeartbeats 4000000 in
theorem cLike (t : Tb) (a c : Option Addr) (cap cap2 : Nat) (w : World) (hR : RoRow w a t.rows) (hT : RoRow w c t.rows) (hn : t.rows.length ≤ 1048576) :
    Calls Try.prog 8 #[tbV t a cap, tbV t c cap2] w fun e w' => e = .returned (.bool true) ∧ Below w.heap.size w w' := by
  obtain ⟨m, l⟩ := t
  simp only at hR hT hn
  simp only [tbV]
  obtain ⟨n, hnn⟩ : ∃ n, l.length = n := ⟨_, rfl⟩
  have HN := hid hnn
  rw [hnn] at hn ⊢
  clear hnn
  have b1 := u_blk_below (heap_alloc_new w (.cells #[.int .i64 m, .slice a n cap] 26)) ((Below.refl _ (w.alloc (.cells #[.int .i64 m, .slice a n cap] 26))).alloc (Nat.le_refl _) (.cells #[.int .i64 m, .slice c n cap2] 26))
  have b2 := heap_alloc_new (w.alloc (.cells #[.int .i64 m, .slice a n cap] 26)) (.cells #[.int .i64 m, .slice c n cap2] 26)
  have HB0 := hid (((Below.refl w.heap.size w).alloc (Nat.le_refl _) (.cells #[.int .i64 m, .slice a n cap] 26)).alloc (by simp) (.cells #[.int .i64 m, .slice c n cap2] 26))
  have HR := hid (hR.below HB0.out)
  have HT := hid (hT.below HB0.out)
  have H1 := hid b1
  have H2 := hid b2
  clear b1 b2 hR hT
  go_enter Try.func8, Try.ntmps8
  obtain ⟨W, hW⟩ : ∃ W, (w.alloc (.cells #[.int .i64 m, .slice a n cap] 26)).alloc (.cells #[.int .i64 m, .slice c n cap2] 26) = W := ⟨_, rfl⟩
  obtain ⟨B, hB⟩ : ∃ B, w.heap.size = B := ⟨_, rfl⟩
  have hB1 : (w.alloc (.cells #[.int .i64 m, .slice a n cap] 26)).heap.size = B + 1 := by simp [hB]
  rw [hW] at HB0 HR HT H1 H2
  rw [hB] at H1
  rw [hB1] at H2
  obtain ⟨x0, x1⟩ := u_box2c H1.out
  obtain ⟨y0, y1⟩ := u_box2c H2.out
  have e4 : (m != m) = false := by simp
  go_wp2_with fail
  clear hW hB hB1
  go_loopw [5] (fun k wr => ∃ i : Nat, k = .int .i64 (i : Int) ∧ i ≤ n ∧ Hid (Below W.heap.size W wr)) (fun k _ => n - (intOf k).toNat)
  case atStart => exact ⟨0, rfl, Nat.zero_le _, Below.refl _ _⟩
  case round =>
    clear x0 x1 y0 y1
    obtain ⟨i, rfl, hi, HB⟩ := hrel
    obtain ⟨x0, x1⟩ := u_box2c (u_blk_below H1.out HB.out)
    obtain ⟨y0, y1⟩ := u_box2c (u_blk_below H2.out HB.out)
    have hb0 : B < wr.heap.size := lt_of_heap (u_blk_below H1.out HB.out)
    have hb1 : B + 1 < wr.heap.size := lt_of_heap (u_blk_below H2.out HB.out)
    by_cases hlt : i < n
    · have his : i < l.length := by rw [HN.out]; exact hlt
      have hin : (i : Int) < (n : Int) := by omega
      obtain ⟨b, o, rfl, hb, c1, c2⟩ := (HR.out.below HB.out) i his
      obtain ⟨b2, o2, rfl, hb', k1, k2⟩ := (HT.out.below HB.out) i his
      generalize l[i].id = x at *
      generalize l[i].til = y at *
      go_wp2_with fail
      go_quiet (fail)
      go_wp2_with fail
      go_roundw
      case rel => exact ⟨i + 1, by go_num, by omega, HB.out.grown (row := none) ⟨rfl, rfl, rfl, Nat.le_refl _, fun _ _ _ => rfl⟩ HB.out.size (fun k e => by cases e)⟩
      case measure => simp [intOf]; omega
    · have hie : i = n := by omega
      subst hie
      go_wp2_with fail
      go_ret
      exact ⟨rfl, bb HB0.out HB.out⟩

end Go.Proofs.Ytnddphmcagcdiaa
