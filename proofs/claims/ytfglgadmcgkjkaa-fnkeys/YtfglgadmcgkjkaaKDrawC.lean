/- Contracts of the draw for KeyOf, and of the two keys that the laws lock with. -/
import Derived.Test.YtfglgadmcgkjkaaKDrawB
import Derived.Test.YtfglgadmcgkjkaaKMath
namespace Go.Proofs.Ytfglgadmcgkjkaa
open Go.RowKit
set_option linter.unusedVariables false
set_option linter.unusedSimpArgs false

abbrev ps6Obj : Obj := .cells #[.int .i64 65521, .int .i64 65519, .int .i64 50021, .int .i64 40009, .int .i64 7, .int .i64 65536] 2 (0, 0)

theorem ps6_at (w : World) (B x : Nat) (hx : x < 6) (h : w.heap[B]? = some ps6Obj) : ∃ y : Int, w.cell? ⟨B, x, none⟩ = some (.int .i64 y) := by
  rw [Lib.cell_of_heap h]
  rcases (show x = 0 ∨ x = 1 ∨ x = 2 ∨ x = 3 ∨ x = 4 ∨ x = 5 from by omega) with rfl | rfl | rfl | rfl | rfl | rfl
  all_goals exact ⟨_, rfl⟩

abbrev qs5Obj : Obj := .cells #[.int .i64 40009, .int .i64 40013, .int .i64 50023, .int .i64 65521, .int .i64 11] 2 (0, 0)

theorem qs5_at (w : World) (B x : Nat) (hx : x < 5) (h : w.heap[B]? = some qs5Obj) : ∃ y : Int, w.cell? ⟨B, x, none⟩ = some (.int .i64 y) := by
  rw [Lib.cell_of_heap h]
  rcases (show x = 0 ∨ x = 1 ∨ x = 2 ∨ x = 3 ∨ x = 4 from by omega) with rfl | rfl | rfl | rfl | rfl
  all_goals exact ⟨_, rfl⟩

abbrev es8Obj : Obj := .cells #[.int .i64 3, .int .i64 17, .int .i64 257, .int .i64 65537, .int .i64 65539, .int .i64 16, .int .i64 5, .int .i64 7] 2 (0, 0)

theorem es8_at (w : World) (B x : Nat) (hx : x < 8) (h : w.heap[B]? = some es8Obj) : ∃ y : Int, w.cell? ⟨B, x, none⟩ = some (.int .i64 y) := by
  rw [Lib.cell_of_heap h]
  rcases (show x = 0 ∨ x = 1 ∨ x = 2 ∨ x = 3 ∨ x = 4 ∨ x = 5 ∨ x = 6 ∨ x = 7 from by omega) with rfl | rfl | rfl | rfl | rfl | rfl | rfl | rfl
  all_goals exact ⟨_, rfl⟩

set_option maxHeartbeats 4000000 in
theorem cDrawKeyOf (a : Option Addr) (len cap : Nat) (w : World) (hlen : len ≤ 4096) (hcr : CodeRow w a len) :
    Calls Try.prog 10 #[.slice a len cap] w fun r w' => ∃ p q e : Int, r = .returned (.tuple #[.int .i64 p, .int .i64 q, .int .i64 e]) ∧ Below w.heap.size w w' := by
  have HR := hide5 hcr
  clear hcr
  go_enter Try.func10, Try.ntmps10
  go_wp2_with fail
  refine (cNew a len cap _ hlen HR.out).mono ?_
  rintro r w1 ⟨rfl, hC1⟩
  have HC1 := hide5 hC1
  have hb1 : w.heap.size < w1.heap.size := hC1.lt
  have HA := hide5 (heap_alloc_new w1 ps6Obj)
  clear hC1
  go_wp2_with fail
  refine (cBelow 6 w a len cap _ _ hlen HR.out (HC1.out.alloc _) (by decide) (by decide)).mono ?_
  rintro r w2 ⟨x, rfl, hx, hC2, hG2⟩
  obtain ⟨p, hp⟩ := ps6_at w2 w1.heap.size x hx (blk_grown hG2 (by omega) HA.out)
  have hxi : (x : Int) < 6 := by omega
  have HC2 := hide5 hC2
  have hb2 : w.heap.size < w2.heap.size := hC2.lt
  have HA2 := hide5 (heap_alloc_new w2 qs5Obj)
  clear hC2 hG2 HC1 HA hb1
  go_wp2_with fail
  refine (cBelow 5 w a len cap _ _ hlen HR.out (HC2.out.alloc _) (by decide) (by decide)).mono ?_
  rintro r w3 ⟨y, rfl, hy, hC3, hG3⟩
  obtain ⟨q, hq⟩ := qs5_at w3 w2.heap.size y hy (blk_grown hG3 (by omega) HA2.out)
  have hyi : (y : Int) < 5 := by omega
  have HC3 := hide5 hC3
  have hb3 : w.heap.size < w3.heap.size := hC3.lt
  have hb3' : ¬ w3.heap.size = w.heap.size := by omega
  clear hC3 hG3 HC2 HA2 hb2 hp
  go_wp2_with fail
  go_region_with (go_at_call 30; first
    | (refine (cBelow 8 w a len cap _ _ hlen HR.out ((HC3.out.alloc es8Obj).drewN 1) (by decide) (by decide)).mono ?_; rintro r w4 ⟨z, rfl, hz, hC4, hG4⟩; obtain ⟨v, hv⟩ := es8_at w4 w3.heap.size z hz (blk_grown hG4 hb3' (heap_alloc_new w3 es8Obj)); have HC4 := hide5 hC4; have hzi : (z : Int) < 8 := (by omega); clear hC4 hG4)
    | (refine (cBelow 8 w a len cap _ _ hlen HR.out (HC3.out.drewN 1) (by decide) (by decide)).mono ?_; rintro r w4 ⟨z, rfl, hz, hC4, hG4⟩; obtain ⟨v, hv⟩ := es8_at (w4.alloc es8Obj) w4.heap.size z hz (heap_alloc_new w4 es8Obj); have HC4 := hide5 hC4; have hzi : (z : Int) < 8 := (by omega); clear hC4 hG4))
  all_goals
    go_wp2_with fail
    go_ret3
    exact ⟨p, q, v, rfl, by first | exact HC4.out.2.1 | exact (HC4.out.alloc _).2.1⟩

theorem isPr_prN {r : Int} (h : isPr r) : PrN r.toNat := ⟨by have := h.1; omega, fun k h2 h3 => pr_all (by have := h.1; omega) h.2 k h2 h3⟩

theorem isPr_of {p : Nat} (h2 : 2 ≤ p) (hp : p ≤ 65535) (h : PrN p) : isPr (p : Int) := by
  refine ⟨by omega, fun k hk hs hm => ?_⟩
  simp only [Int.toNat_natCast] at hs hm
  have hlt : k < p := by
    have := Nat.mul_le_mul_left k hk
    omega
  exact h.2 k hk hlt (Nat.dvd_of_mod_eq_zero hm)

/-- A key with which both can be done. -/
structure Good (n e d : Int) : Prop where
  lk : lkB n e d = true
  ex : ∃ p q : Nat, PrN p ∧ PrN q ∧ ¬ p = q ∧ n = ((p * q : Nat) : Int) ∧ e.toNat * d.toNat % ((p - 1) * (q - 1)) = 1

theorem good_of {p q : Nat} {e : Int} (h : kfP p q e) : Good (kfN p q e) (kfE p q e) (kfD p q e) := by
  obtain ⟨_, k2, k3, k4⟩ := kf_yes h
  rw [k2, k3, k4]
  refine ⟨(lk_kf h.1 h.2.1).2 h, p, q, ?_, ?_, ?_, by simp, ?_⟩
  · simpa using isPr_prN h.1.1.2
  · simpa using isPr_prN h.1.2
  · intro hh
    exact h.1.1.1 (by rw [hh])
  · have hd := h.2.2.2
    have hI := invI_is (show ¬ invI e (((p : Int) - 1) * ((q : Int) - 1)) = 0 by omega)
    obtain ⟨hr, h1, h2, h3⟩ := hI
    have hp1 := h.1.1.2.1
    have hq1 := h.1.2.1
    have e1 : ((p : Int) - 1) * ((q : Int) - 1) = (((p - 1) * (q - 1) : Nat) : Int) := by
      rw [Int.natCast_mul, Int.natCast_sub (by omega), Int.natCast_sub (by omega)]
      rfl
    generalize invI e (((p : Int) - 1) * ((q : Int) - 1)) = D at *
    rw [e1] at h3
    have he := h.2.1
    obtain ⟨E, rfl⟩ : ∃ E : Nat, e = E := ⟨e.toNat, by omega⟩
    obtain ⟨X, rfl⟩ : ∃ X : Nat, D = X := ⟨D.toNat, by omega⟩
    simp only [Int.toNat_natCast]
    rw [Nat.mul_comm]
    have h4 : ((X * E % ((p - 1) * (q - 1)) : Nat) : Int) = 1 := by
      rw [Int.natCast_emod, Int.natCast_mul]
      exact h3
    omega

theorem kfP1 : kfP (65521 : Nat) (40009 : Nat) 17 := by
  refine ⟨⟨⟨by decide, isPr_of (by decide) (by decide) pr65521⟩, isPr_of (by decide) (by decide) pr40009⟩, by decide, by decide, ?_⟩
  rw [invI_eq (X := 925173233) ⟨⟨by decide, by decide⟩, by decide, by decide, by decide⟩]
  decide

theorem kfP2 : kfP (65519 : Nat) (40013 : Nat) 257 := by
  refine ⟨⟨⟨by decide, isPr_of (by decide) (by decide) pr65519⟩, isPr_of (by decide) (by decide) pr40013⟩, by decide, by decide, ?_⟩
  rw [invI_eq (X := 2376696297) ⟨⟨by decide, by decide⟩, by decide, by decide, by decide⟩]
  decide

set_option maxHeartbeats 1000000 in
theorem cSigner (x : Nat) (hx : x < 2) (w : World) :
    Calls Try.prog 25 #[.int .i64 x] w fun r w' => ∃ n e d : Int, r = .returned (.agg #[.int .i64 n, .int .i64 e, .int .i64 d]) ∧ Good n e d ∧ Below w.heap.size w w' := by
  have G1 := hide5 (good_of kfP1)
  have G2 := hide5 (good_of kfP2)
  have C1 := fun w => cKeyOfS (65521 : Nat) (40009 : Nat) 17 w
  have C2 := fun w => cKeyOfS (65519 : Nat) (40013 : Nat) 257 w
  generalize kfN (65521 : Nat) (40009 : Nat) 17 = n1 at *
  generalize kfE (65521 : Nat) (40009 : Nat) 17 = e1 at *
  generalize kfD (65521 : Nat) (40009 : Nat) 17 = d1 at *
  generalize kfB (65521 : Nat) (40009 : Nat) 17 = b1 at *
  generalize kfN (65519 : Nat) (40013 : Nat) 257 = n2 at *
  generalize kfE (65519 : Nat) (40013 : Nat) 257 = e2 at *
  generalize kfD (65519 : Nat) (40013 : Nat) 257 = d2 at *
  generalize kfB (65519 : Nat) (40013 : Nat) 257 = b2 at *
  rcases (show x = 0 ∨ x = 1 by omega) with rfl | rfl
  · go_enter Try.func25, Try.ntmps25
    go_wp2_with fail
    refine (C1 _).mono ?_
    rintro r w1 ⟨rfl, hb⟩
    obtain ⟨hc, hf⟩ := bcell hb
    have HB := hide5 (((Below.refl w.heap.size w).alloc (Nat.le_refl _) _).trans (hb.mono (by simp)))
    have hz0 : w.heap.size < w1.heap.size := by have := hb.size; simp at this; omega
    go_wp2_with fail
    refine bodyPost_ret (v := .agg #[.int .i64 n1, .int .i64 e1, .int .i64 d1]) (by simp [results, Try.results25, go_sem, hc, hz0]) rfl ⟨n1, e1, d1, rfl, G1.out, ?_⟩
    repeat first | exact HB.out | refine Below.setCell ?_ (by simp) _ | refine Below.alloc ?_ (by simp; try omega) _
  · go_enter Try.func25, Try.ntmps25
    go_wp2_with fail
    refine (C2 _).mono ?_
    rintro r w1 ⟨rfl, hb⟩
    obtain ⟨hc, hf⟩ := bcell hb
    have HB := hide5 (((Below.refl w.heap.size w).alloc (Nat.le_refl _) _).trans (hb.mono (by simp)))
    have hz0 : w.heap.size < w1.heap.size := by have := hb.size; simp at this; omega
    go_wp2_with fail
    refine bodyPost_ret (v := .agg #[.int .i64 n2, .int .i64 e2, .int .i64 d2]) (by simp [results, Try.results25, go_sem, hc, hz0]) rfl ⟨n2, e2, d2, rfl, G2.out, ?_⟩
    repeat first | exact HB.out | refine Below.setCell ?_ (by simp) _ | refine Below.alloc ?_ (by simp; try omega) _

end Go.Proofs.Ytfglgadmcgkjkaa
