/- The law on locks: whatever is drawn, it answers true. -/
import Derived.Test.YtfglgadmcgkjkaaKLaw
namespace Go.Proofs.Ytfglgadmcgkjkaa
open Go.RowKit
set_option linter.unusedVariables false
set_option linter.unusedSimpArgs false

theorem below_drewN {B : Nat} {w w1 : World} (h : Below B w w1) (n : Nat) : Below B w (w1.drewN n) := ⟨h.os, h.tape, h.output, h.size, h.block⟩

theorem Good.bounds {N E D : Int} (g : Good N E D) : ((2147483648 ≤ N ∧ N ≤ 3000000000) ∧ 3 ≤ E ∧ E < N) ∧ 3 ≤ D ∧ D < N := of_decide_eq_true g.lk

theorem Good.lock {N E D : Int} (g : Good N E D) (n : Nat) (hn : (n : Int) < N) : lockI N E D n = ((n ^ D.toNat % N.toNat : Nat) : Int) := by
  have hb := g.bounds
  unfold lockI
  rw [if_pos g.lk, powI_ok ⟨⟨by omega, by omega⟩, by omega, hn⟩ (by omega)]
  rfl

theorem Good.opend {N E D : Int} (g : Good N E D) (n : Nat) (hn : (n : Int) < N) : openI N E D n = ((n ^ E.toNat % N.toNat : Nat) : Int) := by
  have hb := g.bounds
  unfold openI
  rw [if_pos (show okB N E D = true from dec_t ⟨hb.1, .inr hb.2⟩), powI_ok ⟨⟨by omega, by omega⟩, by omega, hn⟩ (by omega)]
  rfl

theorem Good.openp {N E D : Int} (g : Good N E D) (n : Nat) (hn : (n : Int) < N) : openI N E 0 n = ((n ^ E.toNat % N.toNat : Nat) : Int) := by
  have hb := g.bounds
  unfold openI
  rw [if_pos (show okB N E 0 = true from dec_t ⟨hb.1, .inl rfl⟩), powI_ok ⟨⟨by omega, by omega⟩, by omega, hn⟩ (by omega)]
  rfl

/-- What a key of two primes does: what it locked is opened, what it opened is locked back, and no other locks to the same. -/
theorem Good.all {N E D : Int} (g : Good N E D) (n m : Nat) (hn : (n : Int) < N) (hm : (m : Int) < N) (hne : ¬ m = n) :
    ∃ X Y Z : Nat, lockI N E D n = (X : Int) ∧ (X : Int) < N ∧ openI N E 0 X = n ∧ openI N E D n = (Y : Int) ∧ lockI N E D Y = n ∧ lockI N E D m = (Z : Int) ∧ ¬ Z = X := by
  have hb := g.bounds
  obtain ⟨p, q, hp, hq, hpq, hN, hed⟩ := g.ex
  have hN2 : N.toNat = p * q := by omega
  have h0 : 0 < p * q := by omega
  have l1 : n ^ D.toNat % N.toNat < p * q := by rw [hN2]; exact Nat.mod_lt _ h0
  have l2 : n ^ E.toNat % N.toNat < p * q := by rw [hN2]; exact Nat.mod_lt _ h0
  refine ⟨n ^ D.toNat % N.toNat, n ^ E.toNat % N.toNat, m ^ D.toNat % N.toNat, g.lock n hn, by omega, ?_, g.opend n hn, ?_, g.lock m hm, ?_⟩
  · rw [g.openp _ (by omega), hN2, euler_back hp hq hpq hed (by omega)]
  · rw [g.lock _ (by omega), hN2, euler_back hp hq hpq (by rw [Nat.mul_comm]; exact hed) (by omega)]
  · intro h
    rw [hN2] at h
    exact hne (euler_inj hp hq hpq hed (by omega) (by omega) h)

theorem other_mod (n r : Nat) (N : Int) (hN : 2147483648 ≤ N) (hn : (n : Int) < N) (hr : r < 999) :
    ∃ m : Nat, ((n : Int) + 1 + (r : Int)).tmod N = m ∧ ((n : Int) + 1 + (r : Int)) % N = m ∧ (m : Int) < N ∧ ¬ m = n := by
  have e : ((n : Int) + 1 + (r : Int)).tmod N = ((n : Int) + 1 + (r : Int)) % N := Int.tmod_eq_emod_of_nonneg (by omega)
  rw [e]
  by_cases h : (n : Int) + 1 + r < N
  · exact ⟨n + 1 + r, by rw [Int.emod_eq_of_lt (by omega) h]; simp, by rw [Int.emod_eq_of_lt (by omega) h]; simp, by omega, by omega⟩
  · have e2 : ((n : Int) + 1 + (r : Int)) % N = (n : Int) + 1 + r - N := by
      rw [← Int.emod_eq_of_lt (show 0 ≤ (n : Int) + 1 + r - N by omega) (show (n : Int) + 1 + r - N < N by omega), Int.sub_emod_right]
    rw [e2]
    exact ⟨n + 1 + r - N.toNat, by omega, by omega, by omega, by omega⟩

theorem first_mod (x : Nat) (N : Int) (hN : 2147483648 ≤ N) (hx : x < 1000003) :
    ∃ n : Nat, ((x : Int) * 2141).tmod N = n ∧ ((x : Int) * 2141) % N = n ∧ (n : Int) < N := by
  have e : ((x : Int) * 2141).tmod N = ((x : Int) * 2141) % N := Int.tmod_eq_emod_of_nonneg (by omega)
  rw [e]
  have h0 := Int.emod_nonneg ((x : Int) * 2141) (show N ≠ 0 by omega)
  have h1 := Int.emod_lt_of_pos ((x : Int) * 2141) (show 0 < N by omega)
  exact ⟨(((x : Int) * 2141) % N).toNat, by omega, by omega, by omega⟩

set_option maxRecDepth 8000 in
set_option maxHeartbeats 8000000 in
theorem law_locks (a : Option Addr) (len cap : Nat) (w : World) (hcr : CodeB w a len) :
    Calls Try.prog 4 #[.slice a len cap] w fun e w' => e = .returned (.bool true) ∧ Below w.heap.size w w' := by
  have HR := hide5 hcr
  clear hcr
  by_cases hbig : len ≤ 4096
  · go_enter Try.func4, Try.ntmps4
    go_wp2_with fail
    refine (cBig_no a len cap _ hbig).mono ?_
    rintro e0 w' ⟨rfl, rfl⟩
    go_wp2_with fail
    refine (cDrawLocked a len cap _ hbig HR.out.row).mono ?_
    rintro e0 w1 ⟨n, e, d, h, rfl, hk, hb1⟩
    have HB1 := hide5 (hb1.alloc hb1.size (.cells #[.int .i64 n, .int .i64 e, .int .i64 d] 27))
    have M3 := hide5 (heap_alloc_new w1 (.cells #[.int .i64 n, .int .i64 e, .int .i64 d] 27))
    have L1 := fun w => cLockedI n e d h w (by have := hk.2.2.2; omega)
    have L2 := fun w => cLockedS n e d h w (by have := hk.2.2.2; omega)
    obtain ⟨l, hl⟩ : ∃ l, lockI n e d h = l := ⟨_, rfl⟩
    rw [hl] at L1 L2
    clear hb1 hk hl
    obtain ⟨⟨k0, k1, k2⟩, _⟩ := box3 M3.out
    go_wp2_with fail
    refine (L1 _).mono ?_
    rintro e0 w2 ⟨rfl, hb2⟩
    have HB2 := hide5 (bb HB1.out hb2)
    have M3b := hide5 (blk_below M3.out hb2)
    clear hb2 HB1 M3 L1 k0 k1 k2
    go_wp2_with fail
    refine (cDrawOpened a len cap _ hbig (HR.out.below HB2.out).row).mono ?_
    rintro e0 w3 ⟨n2, e2, d2, v, rfl, hk, hb3⟩
    have HB3 := hide5 ((bb HB2.out hb3).alloc (bb HB2.out hb3).size (.cells #[.int .i64 n2, .int .i64 e2, .int .i64 d2] 27))
    have M6 := hide5 (heap_alloc_new w3 (.cells #[.int .i64 n2, .int .i64 e2, .int .i64 d2] 27))
    have M3 := hide5 (blk_alloc (blk_below M3b.out hb3) (.cells #[.int .i64 n2, .int .i64 e2, .int .i64 d2] 27))
    obtain ⟨W3, hW3⟩ : ∃ W, w3.alloc (.cells #[.int .i64 n2, .int .i64 e2, .int .i64 d2] 27) = W := ⟨_, rfl⟩
    rw [hW3] at HB3 M6 M3
    have O1 := fun w => cOpenedI n2 e2 d2 v w (by have := hk.2.1.2; omega)
    have O2 := fun w => cOpenedS n2 e2 d2 v w (by have := hk.2.1.2; omega)
    obtain ⟨o, ho⟩ : ∃ o, openI n2 e2 d2 v = o := ⟨_, rfl⟩
    rw [ho] at O1 O2
    clear hb3 HB2 M3b hk ho
    have HNB := hide5 (bw_any W3)
    obtain ⟨c30, c31, c32⟩ := cells_bw M3.out
    obtain ⟨c60, c61, c62⟩ := cells_bw M6.out
    have hll : (l != l) = false := by simp
    have hoo : (o != o) = false := by simp
    go_wp2_with fail
    haveI := HNB.out
    refine wp_region_below (by kernel_rfl) (by kernel_rfl) (Below.refl W3.heap.size W3) ?_
    repeat (go_big_quiet_step ((first | (go_at_call 22; exact calls_bw _ (L2 _)) | (go_at_call 23; exact calls_bw _ (O1 _)) | (go_at_call 24; exact calls_bw _ (O2 _)))))
    refine wpQuiet_nil ?_
    intro _ hw'
    obtain ⟨⟨w4, hwq⟩, hw''⟩ := hw'
    subst hw''
    have HB4 := hide5 (bb HB3.out hwq)
    clear this HNB c30 c31 c32 c60 c61 c62 hll hoo L2 O1 O2 hW3 HB3 M6 M3 hwq
    go_wp2_with fail
    refine (cPick 1 2 a len cap _ (by decide) (by decide) (by decide) hbig (HR.out.below HB4.out)).mono ?_
    rintro e0 w5 ⟨x, rfl, hx, rfl⟩
    go_wp2_with fail
    refine (cSigner x hx _).mono ?_
    rintro e0 w6 ⟨N, E, D, rfl, g, hb6⟩
    have HG := hide5 g
    have HBD := hide5 g.bounds
    have HB6 := hide5 ((bb HB4.out hb6).alloc (bb HB4.out hb6).size (.cells #[.int .i64 N, .int .i64 E, .int .i64 D] 27))
    have M8 := hide5 (heap_alloc_new w6 (.cells #[.int .i64 N, .int .i64 E, .int .i64 D] 27))
    obtain ⟨W6, hW6⟩ : ∃ W, w6.alloc (.cells #[.int .i64 N, .int .i64 E, .int .i64 D] 27) = W := ⟨_, rfl⟩
    rw [hW6] at HB6 M8
    have hN0 : ¬ N = 0 := by have := HBD.out; omega
    clear g hb6 HB4 hx
    obtain ⟨⟨k0, k1, k2⟩, _⟩ := box3 M8.out
    go_upto_region 9 with fail
    go_cut [9] from 45 (fun c wv => ∃ n : Nat, c = .int .i64 (n : Int) ∧ (n : Int) < N ∧ Below W6.heap.size W6 wv)
    case first =>
      have hNb : 2147483648 ≤ N := HBD.out.1.1.1
      go_region_with (go_at_call 26; refine (cPick 2 1000003 a len cap _ (by decide) (by decide) (by decide) hbig (HR.out.below (below_drewN HB6.out 1))).mono ?_; rintro e0 w7 ⟨z, rfl, hz, rfl⟩; obtain ⟨n, t1, t2, hn⟩ := first_mod z N hNb hz; have s1 : IntKind.i64.wrap ((z : Int) * 2141) = (z : Int) * 2141 := IntWalk.i64_in _ (by omega); have t3 : wrap64 (n : Int) = (n : Int) := IntWalk.wrap64_in _ (by have := HBD.out; omega))
      all_goals
        go_wp2_with fail
        go_meet
        exact ⟨n, by first | rfl | rw [t2] | simp [s1, t1, t2], hn, by first | exact Below.refl _ _ | exact below_drewN (Below.refl _ _) _⟩
    case rest =>
      obtain ⟨n, rfl, hn, hbc⟩ := hcut
      have HB7 := hide5 (bb HB6.out hbc)
      have M8b := hide5 (blk_below M8.out hbc)
      have L1 := fun w => cLockedI N E D n w (by have := HBD.out; omega)
      have O1 := fun w => cOpenedI N E D n w (by have := HBD.out; omega)
      obtain ⟨X, hX⟩ : ∃ X, lockI N E D n = X := ⟨_, rfl⟩
      obtain ⟨Y, hY⟩ : ∃ Y, openI N E D n = Y := ⟨_, rfl⟩
      rw [hX] at L1
      rw [hY] at O1
      have HX := hide5 hX
      have HY := hide5 hY
      have HN := hide5 hn
      clear hbc HB6 M8 k0 k1 k2 hW6 hX hY hn
      obtain ⟨⟨k0, k1, k2⟩, _⟩ := box3 M8b.out
      go_wp2_with fail
      refine (L1 _).mono ?_
      rintro e0 w8 ⟨rfl, hb8⟩
      have HB8 := hide5 (bb HB7.out hb8)
      have M8 := hide5 (blk_below M8b.out hb8)
      clear hb8 HB7 M8b k0 k1 k2 L1
      obtain ⟨⟨k0, k1, k2⟩, _⟩ := box3 M8.out
      go_wp2_with fail
      refine (O1 _).mono ?_
      rintro e0 w9 ⟨rfl, hb9⟩
      have HB9 := hide5 (bb HB8.out hb9)
      have M9 := hide5 (blk_below M8.out hb9)
      clear hb9 HB8 M8 k0 k1 k2 O1
      obtain ⟨⟨k0, k1, k2⟩, _⟩ := box3 M9.out
      go_upto_region 12 with fail
      go_cut [12] from 57 (fun c wv => ∃ m : Nat, c = .int .i64 (m : Int) ∧ ((m : Int) < N ∧ ¬ m = n) ∧ Below w9.heap.size w9 wv)
      case first =>
        have hNb : 2147483648 ≤ N := HBD.out.1.1.1
        have hNu : N ≤ 3000000000 := HBD.out.1.1.2
        have hn := HN.out
        go_region_with (go_at_call 26; refine (cPick 3 999 a len cap _ (by decide) (by decide) (by decide) hbig (HR.out.below (below_drewN HB9.out 1))).mono ?_; rintro e0 w10 ⟨z, rfl, hz, rfl⟩; obtain ⟨m, t1, t2, hm, hne⟩ := other_mod n z N hNb hn hz; have s1 : IntKind.i64.wrap ((n : Int) + 1) = (n : Int) + 1 := IntWalk.i64_in _ (by omega); have s2 : IntKind.i64.wrap ((n : Int) + 1 + (z : Int)) = (n : Int) + 1 + (z : Int) := IntWalk.i64_in _ (by omega); have t3 : wrap64 (m : Int) = (m : Int) := IntWalk.wrap64_in _ (by omega))
        all_goals
          go_wp2_with fail
          go_meet
          exact ⟨m, by first | rfl | rw [t2] | simp [s1, s2, t1, t2], ⟨hm, hne⟩, by first | exact Below.refl _ _ | exact below_drewN (Below.refl _ _) _⟩
      case rest =>
        obtain ⟨m, rfl, ⟨hm, hne⟩, hbc⟩ := hcut
        have HB10 := hide5 (bb HB9.out hbc)
        have M10 := hide5 (blk_below M9.out hbc)
        obtain ⟨X', Y', Z, g1, g2, g3, g4, g5, g6, g7⟩ := HG.out.all n m HN.out hm hne
        have hXX : X = (X' : Int) := HX.out.symm.trans g1
        have hYY : Y = (Y' : Int) := HY.out.symm.trans g4
        subst hXX hYY
        have hop : opB N E = true := dec_t HBD.out.1
        have P1 := fun w => cPublicS N E D w
        rw [show pubN N E = N by unfold pubN; rw [if_pos hop], show pubE N E = E by unfold pubE; rw [if_pos hop]] at P1
        have O1 := fun w => cOpenedI N E 0 X' w (by have := HBD.out; omega)
        rw [g3] at O1
        have L1 := fun w => cLockedI N E D Y' w (by have := HBD.out; omega)
        rw [g5] at L1
        have L2 := fun w => cLockedI N E D m w (by have := HBD.out; omega)
        rw [g6] at L2
        have hd1 : decide (0 ≤ (X' : Int)) = true := by simp
        have hd2 : decide ((X' : Int) < N) = true := decide_eq_true g2
        have hd3 : ((Z : Int) != (X' : Int)) = true := by simp; omega
        clear hbc HB9 M9 k0 k1 k2 HX HY HN HG HBD hN0 hop g1 g2 g3 g4 g5 g6 g7 hne hm
        obtain ⟨⟨k0, k1, k2⟩, _⟩ := box3 M10.out
        go_wp2_with fail
        refine (P1 _).mono ?_
        rintro e0 w11 ⟨rfl, hb11⟩
        have HB11 := hide5 (bb HB10.out hb11)
        have M11 := hide5 (blk_below M10.out hb11)
        clear hb11 HB10 M10 k0 k1 k2 P1
        go_wp2_with fail
        refine (O1 _).mono ?_
        rintro e0 w12 ⟨rfl, hb12⟩
        have HB12 := hide5 (bb HB11.out hb12)
        have M12 := hide5 (blk_below M11.out hb12)
        clear hb12 HB11 M11 O1
        obtain ⟨⟨k0, k1, k2⟩, _⟩ := box3 M12.out
        go_wp2_with fail
        refine (L1 _).mono ?_
        rintro e0 w13 ⟨rfl, hb13⟩
        have HB13 := hide5 (bb HB12.out hb13)
        have M13 := hide5 (blk_below M12.out hb13)
        clear hb13 HB12 M12 L1 k0 k1 k2
        obtain ⟨⟨k0, k1, k2⟩, _⟩ := box3 M13.out
        go_wp2_with fail
        refine (L2 _).mono ?_
        rintro e0 w14 ⟨rfl, hb14⟩
        have HB14 := hide5 (bb HB13.out hb14)
        clear hb14 HB13 M13 L2 k0 k1 k2
        go_wp2_with fail
        go_ret
        exact ⟨rfl, HB14.out⟩
  · go_enter Try.func4, Try.ntmps4
    go_wp2_with fail
    refine (cBig_yes a len cap _ hbig).mono ?_
    rintro e0 w' ⟨rfl, rfl⟩
    go_wp2_with fail
    go_ret
    exact ⟨rfl, Below.refl _ _⟩

end Go.Proofs.Ytfglgadmcgkjkaa
