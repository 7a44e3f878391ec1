/- Contracts of the draws for the laws on keys. -/
import Derived.Test.YtfglgadmcgkjkaaKDraw
namespace Go.Proofs.Ytfglgadmcgkjkaa
open Go.RowKit
set_option linter.unusedVariables false
set_option linter.unusedSimpArgs false

abbrev hs3Obj (n : Int) : Obj := .cells #[.int .i64 (-1), .int .i64 n, .int .i64 4611686018427387904] 2 (0, 0)

theorem hs3_at (n : Int) (w : World) (B x : Nat) (hx : x < 3) (h : w.heap[B]? = some (hs3Obj n)) : ∃ y : Int, w.cell? ⟨B, x, none⟩ = some (.int .i64 y) := by
  rw [Lib.cell_of_heap h]
  rcases (show x = 0 ∨ x = 1 ∨ x = 2 from by omega) with rfl | rfl | rfl
  · exact ⟨-1, rfl⟩
  · exact ⟨n, rfl⟩
  · exact ⟨4611686018427387904, rfl⟩

set_option maxHeartbeats 4000000 in
theorem cL6DrawHash (n e d : Int) (w0 : World) (a : Option Addr) (len cap b : Nat) (w : World) (hlen : len ≤ 4096) (hcr : CodeRow w0 a len) (hC : Cur w0 a len cap b w) :
    Calls Try.prog 47 #[.pointer (some ⟨b, 0, none⟩), .agg #[.int .i64 n, .int .i64 e, .int .i64 d]] w fun r w' => ∃ h : Int, r = .returned (.int .i64 h) ∧ Cur w0 a len cap b w' ∧ w.grownBy w' (some b) := by
  have HR := hide5 hcr
  have HC := hide5 hC
  have hbl : b < w.heap.size := hC.lt
  have h00 : w0.heap.size ≤ w.heap.size := hC.size
  have hbr : ¬ w.heap.size = b := by omega
  clear hC hcr
  have HN := hide5 (heap_alloc_new w (.cells #[.int .i64 n, .int .i64 e, .int .i64 d] 27))
  go_enter Try.func47, Try.ntmps47
  go_wp2_with fail
  refine (cOnce 8 w0 a len cap _ _ hlen HR.out (HC.out.alloc _) (by decide) (by decide)).mono ?_
  rintro r w4 ⟨q, rfl, hC4, hG4⟩
  have HN4 := hide5 (blk_grown hG4 hbr HN.out)
  have HC4 := hide5 hC4
  have HG4 := hide5 (gtrans (g_alloc (World.grownBy.refl w (some b)) _) hG4)
  have hr4 : w.heap.size < w4.heap.size := lt_of_heap HN4.out
  have h4b : ¬ w4.heap.size = b := by omega
  obtain ⟨⟨r0, r1, r2⟩, fr0, fr1, fr2⟩ := box3 HN4.out
  clear hC4 hG4 HN HC
  cases q
  · go_wp2_with fail
    refine (cBelowAny 2147483648 w0 a len cap _ _ hlen HR.out HC4.out (by decide) (by decide)).mono ?_
    rintro r w5 ⟨z, rfl, hz, hC5, hG5⟩
    have HC5 := hide5 hC5
    have HG5 := hide5 (gtrans HG4.out hG5)
    clear hC5 hG5 r0 r1 r2
    go_wp2_with fail
    go_ret
    exact ⟨z, rfl, HC5.out, HG5.out⟩
  · go_wp2_with fail
    go_region_with (go_at_call 30; first
      | (refine (cBelow 3 w0 a len cap _ _ hlen HR.out ((HC4.out.alloc (hs3Obj n)).drewN 1) (by decide) (by decide)).mono ?_; rintro r w5 ⟨z, rfl, hz, hC5, hG5⟩; obtain ⟨v, hv⟩ := hs3_at n w5 w4.heap.size z hz (blk_grown hG5 h4b (heap_alloc_new w4 (hs3Obj n))); have HC5 := hide5 hC5; have HG5 := hide5 (gtrans (g_drewN (g_alloc HG4.out _) 1) hG5); have hzi : (z : Int) < 3 := (by omega); clear hC5 hG5)
      | (refine (cBelow 3 w0 a len cap _ _ hlen HR.out (HC4.out.drewN 1) (by decide) (by decide)).mono ?_; rintro r w5 ⟨z, rfl, hz, hC5, hG5⟩; obtain ⟨v, hv⟩ := hs3_at n (w5.alloc (hs3Obj n)) w5.heap.size z hz (heap_alloc_new w5 (hs3Obj n)); have HN5 := hide5 (blk_grown hG5 hbr HN4.out); obtain ⟨⟨s0, s1, s2⟩, fs0, fs1, fs2⟩ := box3 HN5.out; have HC5 := hide5 hC5; have HG5 := hide5 (gtrans (g_drewN HG4.out 1) hG5); have hzi : (z : Int) < 3 := (by omega); clear hC5 hG5))
    all_goals
      go_wp2_with fail
      go_ret
      refine ⟨v, rfl, ?_, ?_⟩
      · repeat first | exact HC5.out | refine Cur.alloc ?_ _
      · repeat first | exact HG5.out | refine g_alloc ?_ _

theorem cDrawPublic (a : Option Addr) (len cap : Nat) (w : World) (hlen : len ≤ 4096) (hcr : CodeRow w a len) :
    Calls Try.prog 12 #[.slice a len cap] w fun r w' => ∃ n e d : Int, r = .returned (.agg #[.int .i64 n, .int .i64 e, .int .i64 d]) ∧ (kb n ∧ kb e ∧ kb d) ∧ Below w.heap.size w w' := by
  have HR := hide5 (code_below hcr ((Below.refl w.heap.size w).alloc (Nat.le_refl _) (.cells #[.int .i64 0, .int .i64 0, .int .i64 0] 27)))
  clear hcr
  have HN := hide5 (heap_alloc_new w (.cells #[.int .i64 0, .int .i64 0, .int .i64 0] 27))
  have HB := hide5 ((Below.refl w.heap.size w).alloc (Nat.le_refl _) (.cells #[.int .i64 0, .int .i64 0, .int .i64 0] 27))
  obtain ⟨W, hW⟩ : ∃ W, w.alloc (.cells #[.int .i64 0, .int .i64 0, .int .i64 0] 27) = W := ⟨_, rfl⟩
  have hs : W.heap.size = w.heap.size + 1 := by rw [← hW]; simp
  rw [hW] at HR HN HB
  go_enter Try.func12, Try.ntmps12
  go_wp2_with fail
  refine (cNew a len cap _ hlen HR.out).mono ?_
  rintro r w1 ⟨rfl, hC1⟩
  rw [hs] at hC1 ⊢
  have HC1 := hide5 hC1
  have HS := hide5 hs
  clear hC1 hW hs
  go_wp2_with fail
  refine (cL6Draw W a len cap _ _ hlen HR.out HC1.out).mono ?_
  rintro r w2 ⟨n, e, d, rfl, hk, hC2, hG2⟩
  have HK := hide5 hk
  have HC2 := hide5 hC2
  have HN2 := hide5 ((hC2.2.1.block w.heap.size (by have := HS.out; omega)).trans HN.out)
  obtain ⟨⟨r0, r1, r2⟩, fr0, fr1, fr2⟩ := box3 HN2.out
  clear hC2 hG2 HC1 hk
  go_wp2_with fail
  refine bodyPost_ret (v := .agg #[.int .i64 n, .int .i64 e, .int .i64 d]) (by simp [results, Try.results12, go_sem, r0, r1, r2]) rfl ⟨n, e, d, rfl, HK.out, ?_⟩
  have HB2 := HB.out.trans (HC2.out.2.1.mono (by have := HS.out; omega))
  repeat first | exact HB2 | refine Below.setCell ?_ (by simp) _

set_option maxHeartbeats 1000000 in
theorem cDrawLocked (a : Option Addr) (len cap : Nat) (w : World) (hlen : len ≤ 4096) (hcr : CodeRow w a len) :
    Calls Try.prog 20 #[.slice a len cap] w fun r w' => ∃ n e d h : Int, r = .returned (.tuple #[.agg #[.int .i64 n, .int .i64 e, .int .i64 d], .int .i64 h]) ∧ (kb n ∧ kb e ∧ kb d) ∧ Below w.heap.size w w' := by
  have HR := hide5 (code_below hcr ((Below.refl w.heap.size w).alloc (Nat.le_refl _) (.cells #[.int .i64 0, .int .i64 0, .int .i64 0] 27)))
  clear hcr
  have HN := hide5 (heap_alloc_new w (.cells #[.int .i64 0, .int .i64 0, .int .i64 0] 27))
  have HB := hide5 ((Below.refl w.heap.size w).alloc (Nat.le_refl _) (.cells #[.int .i64 0, .int .i64 0, .int .i64 0] 27))
  obtain ⟨W, hW⟩ : ∃ W, w.alloc (.cells #[.int .i64 0, .int .i64 0, .int .i64 0] 27) = W := ⟨_, rfl⟩
  have hs : W.heap.size = w.heap.size + 1 := by rw [← hW]; simp
  rw [hW] at HR HN HB
  go_enter Try.func20, Try.ntmps20
  go_wp2_with fail
  refine (cNew a len cap _ hlen HR.out).mono ?_
  rintro r w1 ⟨rfl, hC1⟩
  rw [hs] at hC1 ⊢
  have HC1 := hide5 hC1
  have HS := hide5 hs
  clear hC1 hW hs
  go_wp2_with fail
  refine (cL6Draw W a len cap _ _ hlen HR.out HC1.out).mono ?_
  rintro r w2 ⟨n, e, d, rfl, hk, hC2, hG2⟩
  have HK := hide5 hk
  have HC2 := hide5 hC2
  have HM2 := hide5 (heap_alloc_new w2 (.cells #[.int .i64 n, .int .i64 e, .int .i64 d] 27))
  have hlt2 : w.heap.size + 1 < w2.heap.size := hC2.lt
  have hgb : ¬ w2.heap.size = w.heap.size + 1 := by omega
  have hrg : ¬ w.heap.size = w2.heap.size := by omega
  have hgr : ¬ w2.heap.size = w.heap.size := by omega
  obtain ⟨⟨k0, k1, k2⟩, fk0, fk1, fk2⟩ := box3 HM2.out
  clear hC2 hG2 HC1 hk
  go_wp2_with fail
  go_region_with (go_at_call 47; refine (cL6DrawHash n e d W a len cap _ _ hlen HR.out ((HC2.out.alloc (.cells #[.int .i64 n, .int .i64 e, .int .i64 d] 27)).drewN 1)).mono ?_; rintro r w3 ⟨h, rfl, hC3, hG3⟩; have HM3 := hide5 (blk_grown hG3 hgb HM2.out); obtain ⟨⟨j0, j1, j2⟩, fj0, fj1, fj2⟩ := box3 HM3.out; have HC3 := hide5 hC3; have HN3 := hide5 ((hC3.2.1.block w.heap.size (by have := HS.out; omega)).trans HN.out); obtain ⟨⟨r0, r1, r2⟩, fr0, fr1, fr2⟩ := box3 HN3.out; clear hC3 hG3)
  all_goals
    go_wp2_with fail
    refine bodyPost_ret (v := .tuple #[.agg #[.int .i64 n, .int .i64 e, .int .i64 d], .int .i64 h]) (by simp [results, Try.results20, go_sem, r0, r1, r2]) rfl ⟨n, e, d, h, rfl, HK.out, ?_⟩
    have HB2 := HB.out.trans (HC3.out.2.1.mono (by have := HS.out; omega))
    repeat first | exact HB2 | refine Below.setCell ?_ (by simp) _

theorem cDrawOpened (a : Option Addr) (len cap : Nat) (w : World) (hlen : len ≤ 4096) (hcr : CodeRow w a len) :
    Calls Try.prog 21 #[.slice a len cap] w fun r w' => ∃ n e d h : Int, r = .returned (.tuple #[.agg #[.int .i64 n, .int .i64 e, .int .i64 d], .int .i64 h]) ∧ (kb n ∧ kb e ∧ kb d) ∧ Below w.heap.size w w' := by
  have HR := hide5 (code_below hcr ((Below.refl w.heap.size w).alloc (Nat.le_refl _) (.cells #[.int .i64 0, .int .i64 0, .int .i64 0] 27)))
  clear hcr
  go_enter Try.func21, Try.ntmps21
  go_wp2_with fail
  refine (cDrawLocked a len cap _ hlen HR.out).mono ?_
  rintro r w1 ⟨n, e, d, h, rfl, hk, hb⟩
  have HK := hide5 hk
  obtain ⟨hc, hf⟩ := bcell hb
  have HB := hide5 (((Below.refl w.heap.size w).alloc (Nat.le_refl _) _).trans (hb.mono (by simp)))
  have hz0 : w.heap.size < w1.heap.size := by have := hb.size; simp at this; omega
  clear hk
  go_wp2_with fail
  refine bodyPost_ret (v := .tuple #[.agg #[.int .i64 n, .int .i64 e, .int .i64 d], .int .i64 h]) (by simp [results, Try.results21, go_sem, hc, hz0]) rfl ⟨n, e, d, h, rfl, HK.out, ?_⟩
  repeat first | exact HB.out | refine Below.setCell ?_ (by simp) _

end Go.Proofs.Ytfglgadmcgkjkaa
