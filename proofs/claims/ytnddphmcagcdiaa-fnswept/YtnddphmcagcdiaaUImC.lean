/- Contracts of the program's copiedRow, copiedRows, copiedTable. -/
import Derived.Test.YtnddphmcagcdiaaUImB
import Derived.Test.YtnddphmcagcdiaaUSpecB
namespace Go.Proofs.Ytnddphmcagcdiaa
open Go.RowKit
set_option linter.unusedVariables false
set_option linter.unusedSimpArgs false

set_option maxHeartbeats 2000000 in
theorem cCopiedRow (x : ByteArray) (y : Int) (w : World) (hx : x.size ≤ 1048576) :
    Calls Try.prog 24 #[.agg #[.string x, .int .i64 y]] w fun e w' => e = .returned (.agg #[.string x, .int .i64 y]) ∧ Below w.heap.size w w' := by
  have C := hid (fun wx => c_strings_Clone x wx hx)
  obtain ⟨b1, b2⟩ := u_heap2 w (.cells #[.string x, .int .i64 y] 33) (.cells #[.string ⟨#[]⟩, .int .i64 0] 33)
  have HB0 := hid (((Below.refl w.heap.size w).alloc (Nat.le_refl _) (.cells #[.string x, .int .i64 y] 33)).alloc (by simp) (.cells #[.string ⟨#[]⟩, .int .i64 0] 33))
  obtain ⟨W0, hW0⟩ : ∃ W0, ((w.alloc (.cells #[.string x, .int .i64 y] 33)).alloc (.cells #[.string ⟨#[]⟩, .int .i64 0] 33)) = W0 := ⟨_, rfl⟩
  rw [hW0] at b1 b2 HB0
  obtain ⟨B, hB⟩ : ∃ B, w.heap.size = B := ⟨_, rfl⟩
  rw [hB] at b1 b2
  have HM1 := hid b1
  have HM2 := hid b2
  clear b1 b2
  obtain ⟨⟨f0, f1⟩, f2, f3⟩ := u_box2f HM1.out
  obtain ⟨⟨k0, k1⟩, k2, k3⟩ := u_box2f HM2.out
  go_enter Try.func24, Try.ntmps24
  go_wp2_with fail
  have HBc := hid ((Below.refl W0.heap.size W0).drew)
  go_region_law (first
    | (go_simp; go_at_call 47; refine (C.out _).mono ?_; rintro e w6 ⟨rfl, hb6⟩; have HB6 := hid (HBc.out.trans hb6); obtain ⟨⟨r0, r1⟩, r2, r3⟩ := u_box2f (u_blk_below HM1.out HB6.out); obtain ⟨⟨s0, s1⟩, s2, s3⟩ := u_box2f (u_blk_below HM2.out HB6.out); clear hb6))
  all_goals
    have HD := hid ((show B + 1 < W0.heap.size from lt_of_heap HM2.out))
    have HW := hid ((HB0.out.trans (HB6.out.mono HB0.out.size)))
    go_wp2_with fail
    refine bodyPost_ret (v := .agg #[.string x, .int .i64 y]) (by simp [results, Try.results24, go_sem, r0, r1, s0, s1]) rfl ⟨rfl, ?_⟩
    iterate 2 refine Below.setCell ?_ (show w.heap.size ≤ B + 1 by omega) _
    exact HW.out

end Go.Proofs.Ytnddphmcagcdiaa
