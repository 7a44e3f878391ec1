/- Seals in the program: contracts of sealerOf, owns, spoken. Seals in the program: contract of SealedBy. A row of nodes among the arguments, opened. Contracts of what the laws hand keys in by, and hold keys against each other by. -/
import Derived.Test.YtnbpcgeojmikoaaGreatDoorM30
import Derived.Test.YtnbpcgeojmikoaaGreatDoorM3
import Derived.Test.YtnbpcgeojmikoaaGreatDoorM2
import Derived.Test.YtnbpcgeojmikoaaGreatDoorRows
import Derived.ProofKit
import Derived.OpenShut
import Derived.WalkKit
import Derived.Below
namespace Go.Proofs.YtnbpcgeojmikoaaGreatDoor
open Go.RowKit
set_option linter.unusedVariables false
set_option linter.unusedSimpArgs false

/-- What stands behind seals: a keeper where the key locks, an onlooker else. -/
noncomputable def sealerV (n e d : Int) : Value := .iface (if lkB n e d = true then 128 else 126) (.agg #[.int .i64 n, .int .i64 e, .int .i64 d])

set_option maxHeartbeats 2000000 in
theorem cSealerOf (n e d : Int) (w : World) :
    Calls Tryz.prog 32 #[.agg #[.int .i64 n, .int .i64 e, .int .i64 d]] w fun x w' => x = .returned (sealerV n e d) ∧ Below w.heap.size w w' := by
  have HB0 := hid ((Below.refl w.heap.size w).alloc (Nat.le_refl _) (.cells #[.int .i64 n, .int .i64 e, .int .i64 d] 26))
  have M0 := hid (box_w3 w (.int .i64 n) (.int .i64 e) (.int .i64 d) 26)
  have CW := hid (fun wx => cWholeOf n e d wx)
  have CL := hid (fun wx => cLocks n e d wx)
  unfold sealerV
  generalize lkB n e d = K at *
  go_enter Tryz.func32, Tryz.ntmps32
  go_wp2_with fail
  refine (CW.out _).mono ?_
  rintro x w1 ⟨rfl, hb1⟩
  have HB1 := hid (bb HB0.out hb1)
  have M1 := hid (blk_below M0.out hb1)
  clear hb1 CW M0 HB0
  go_wp2_with fail
  refine (CL.out _).mono ?_
  rintro x w2 ⟨rfl, hb2⟩
  have HB2 := hid (bb HB1.out hb2)
  obtain ⟨z0, z1, z2⟩ := (box3e (blk_below M1.out hb2)).1
  clear hb2 CL M1 HB1
  cases K with
  | true =>
    go_wp2_with fail
    go_ret
    exact ⟨rfl, HB2.out⟩
  | false =>
    go_wp2_with fail
    go_ret
    exact ⟨rfl, HB2.out⟩

/-- The sign is what the key opens to what was spoken. -/
noncomputable def ownsB (n e d : Int) (v s : ByteArray) : Bool := open Classical in tenB v && decide (openI n e d (numOf v.data.toList).1 = ((hsL s.data.toList : Nat) : Int))

set_option maxHeartbeats 2000000 in
theorem cOwns (n e d : Int) (v s : ByteArray) (w : World) (he : e ≤ 9223372036854775807) (hv : v.size ≤ 1048576) (hs : s.size ≤ 1073741824) :
    Calls Tryz.prog 292 #[.agg #[.int .i64 n, .int .i64 e, .int .i64 d], .string v, .string s] w fun x w' => x = .returned (.bool (ownsB n e d v s)) ∧ Below w.heap.size w w' := by
  have HB0 := hid ((Below.refl w.heap.size w).alloc (Nat.le_refl _) (.cells #[.int .i64 n, .int .i64 e, .int .i64 d] 126))
  have M0 := hid (box_w3 w (.int .i64 n) (.int .i64 e) (.int .i64 d) 126)
  have CN := hid (fun wx => cNumI v wx hv)
  have CO := hid (fun wx => cOpenedI n e d (numOf v.data.toList).1 wx he)
  have CH := hid (fun wx => cHashIW s wx hs)
  have HV := hid (show ownsB n e d v s = ((numOf v.data.toList).2 && decide (openI n e d (numOf v.data.toList).1 = ((hsL s.data.toList : Nat) : Int))) by unfold ownsB tenB; congr)
  rw [HV.out]
  clear HV he hv hs
  generalize (numOf v.data.toList).1 = X at *
  generalize (numOf v.data.toList).2 = Y at *
  generalize openI n e d X = O at *
  obtain ⟨H, hH⟩ : ∃ H : Int, ((hsL s.data.toList : Nat) : Int) = H := ⟨_, rfl⟩
  rw [hH] at CH ⊢
  clear hH
  have hOH : (O == H) = decide (O = H) := by
    by_cases q : O = H
    · subst q; simp
    · simp [q]
  obtain ⟨Z, hZ⟩ : ∃ Z, decide (O = H) = Z := ⟨_, rfl⟩
  rw [hZ] at hOH ⊢
  clear hZ
  obtain ⟨z0, z1, z2⟩ := (box3e M0.out).1
  cases Y with
  | false =>
    go_enter Tryz.func292, Tryz.ntmps292
    go_wp2_with fail
    refine (CN.out _).mono ?_
    rintro x w1 ⟨rfl, rfl⟩
    clear CN
    go_wp2_with fail
    go_ret
    exact ⟨rfl, HB0.out⟩
  | true =>
    go_enter Tryz.func292, Tryz.ntmps292
    go_wp2_with fail
    refine (CN.out _).mono ?_
    rintro x w1 ⟨rfl, rfl⟩
    clear CN
    go_wp2_with fail
    refine (CO.out _).mono ?_
    rintro x w2 ⟨rfl, hb2⟩
    have HB2 := hid (bb HB0.out hb2)
    clear hb2 CO z0 z1 z2 M0 HB0
    go_wp2_with fail
    refine (CH.out _).mono ?_
    rintro x w3 ⟨rfl, hb3⟩
    have HB3 := hid (bb HB2.out hb3)
    clear hb3 CH HB2
    go_wp2_with fail
    go_ret
    exact ⟨by simp, HB3.out⟩

set_option maxHeartbeats 2000000 in
theorem cWordsSpoken (r s g : ByteArray) (w : World) (hr : r.size ≤ 1048576) (hs : s.size ≤ 1048576) :
    Calls Tryz.prog 33 #[.agg #[.string r, .string s, .string g]] w fun x w' => x = .returned (.string (spokenF r s)) ∧ Below w.heap.size w w' := by
  have HB0 := hid ((Below.refl w.heap.size w).alloc (Nat.le_refl _) (.cells #[.string r, .string s, .string g] 56))
  obtain ⟨z0, z1, z2⟩ := (box3e (box_w3 w (.string r) (.string s) (.string g) 56)).1
  have C := hid (fun wx => cSpokenI r s wx hr hs)
  clear hr hs
  generalize spokenF r s = V at *
  go_enter Tryz.func33, Tryz.ntmps33
  go_wp2_with fail
  refine (C.out _).mono ?_
  rintro x w1 ⟨rfl, hb1⟩
  have HB1 := hid (bb HB0.out hb1)
  clear hb1 C
  go_wp2_with fail
  go_ret
  exact ⟨rfl, HB1.out⟩

end Go.Proofs.YtnbpcgeojmikoaaGreatDoor

namespace Go.Proofs.YtnbpcgeojmikoaaGreatDoor
open Go.RowKit
set_option linter.unusedVariables false
set_option linter.unusedSimpArgs false

theorem by_is {ts : List Tk} (hN : NamesP ts) (hI : idsB ts = true) (x n e d : Int) : byI ts x n e d = (psX ts x && (decide (sumF (atsJ ts x.toNat) = sumI ts (parI ts x.toNat) x) && ownsB n e d (sgnT (atsJ ts x.toNat)) (spokenF (refF (atsJ ts x.toNat)) (sumF (atsJ ts x.toNat))))) := by
  unfold byI psX sealX
  rw [namesB_t hN, hI, Bool.true_and, Bool.true_and]
  by_cases hx : 0 ≤ x ∧ x < ts.length
  · obtain ⟨k, rfl⟩ : ∃ k : Nat, x = k := ⟨x.toNat, by omega⟩
    have hk : k < ts.length := by omega
    rw [decide_eq_true hx, Bool.true_and, Bool.true_and]
    simp only [Int.toNat_natCast]
    unfold byN
    cases hS : sealN ts k with
    | false => rfl
    | true =>
      cases hF : refersN ts k with
      | false => rfl
      | true =>
        have h0 := seal_up hF
        obtain ⟨p, hp⟩ : ∃ p : Nat, parI ts k = (p : Int) := ⟨(parI ts k).toNat, by omega⟩
        have hpk := up_lt hN.1 hk hp
        have hel : elemB ts (p : Int) = true := by
          rcases (hN.1.2.2.2.2 k hk).2.1 with h' | ⟨q, hm, e', he⟩
          · omega
          · have : q = p := by omega
            subst this
            unfold elemB hasB
            obtain ⟨hq, hne⟩ := he
            rw [treeB_t hN.1, decide_eq_true ⟨by omega, by omega⟩, show ((q : Int)).toNat = q from rfl, nameI_at hq, decide_eq_false hne]
            rfl
        have hc : canB ts (p : Int) (k : Int) = true := by
          unfold canB
          rw [namesB_t hN, hel, decide_eq_true ⟨by omega, by omega⟩, decide_eq_false (by omega)]
          rfl
        have hsum : sumN ts (parI ts k).toNat (k : Int) = sumI ts (parI ts k) (k : Int) := by
          unfold sumN sumI
          rw [hp, canonI_yes hc]
        have hten : tenB (sgnT (atsJ ts k)) = true := by
          have hj : sealJ (atsJ ts k) = true := by
            rw [← seal_just (names_nd hN.1 k)]
            unfold sealN at hS
            rw [Bool.and_eq_true] at hS
            exact hS.2
          unfold sealJ at hj
          rw [Bool.and_eq_true, Bool.and_eq_true] at hj
          exact hj.2.2
        unfold ownsB
        rw [hten, hsum]
        simp only [Bool.true_and]
        rfl
  · rw [decide_eq_false hx]
    rfl

theorem nil_keeper (n e d : Int) (w : World) : (nilAhead 419 128 (.agg #[.int .i64 n, .int .i64 e, .int .i64 d]) "loop.example/g00379/impl.owns").run Tryz.prog w = .ok (some false) w := by kernel_rfl

theorem nil_looker (n e d : Int) (w : World) : (nilAhead 419 126 (.agg #[.int .i64 n, .int .i64 e, .int .i64 d]) "loop.example/g00379/impl.owns").run Tryz.prog w = .ok (some false) w := by kernel_rfl

theorem meth_keeper (n e d : Int) (w : World) : (method 419 128 (.agg #[.int .i64 n, .int .i64 e, .int .i64 d]) "loop.example/g00379/impl.owns").run Tryz.prog w = .ok (292, .agg #[.int .i64 n, .int .i64 e, .int .i64 d]) w := by kernel_rfl

theorem meth_looker (n e d : Int) (w : World) : (method 419 126 (.agg #[.int .i64 n, .int .i64 e, .int .i64 d]) "loop.example/g00379/impl.owns").run Tryz.prog w = .ok (292, .agg #[.int .i64 n, .int .i64 e, .int .i64 d]) w := by kernel_rfl

set_option maxRecDepth 8000 in
set_option maxHeartbeats 8000000 in
theorem cSealedByI (a : Option Addr) (cap : Nat) (ts : List Tk) (x kn ke kd : Int) (w : World) (hR : TkRow w a ts) (hn : ts.length ≤ 1048576) (hz : TksSz 1048576 ts) (hE : ke ≤ 9223372036854775807) (hL : Laid w) :
    Calls Tryz.prog 8 #[.slice a ts.length cap, .int .i64 x, .agg #[.int .i64 kn, .int .i64 ke, .int .i64 kd]] w fun e w' => e = .returned (.bool (byI ts x kn ke kd)) ∧ Below w.heap.size w w' := by
  have HBA := hid ((Below.refl w.heap.size w).alloc (Nat.le_refl _) (.cells #[.int .i64 kn, .int .i64 ke, .int .i64 kd] 26))
  have M0 := hid (box_w3 w (.int .i64 kn) (.int .i64 ke) (.int .i64 kd) 26)
  have CN := hid (fun wx (hb : Below w.heap.size w wx) => cNamesOkI a cap ts wx (hR.below hb) hn hz)
  have CI := hid (fun wx (hb : Below w.heap.size w wx) => cIdsOkI a cap ts wx (hR.below hb) hn hz)
  by_cases hN : NamesP ts
  case neg =>
    have HE := hid (show byI ts x kn ke kd = false by unfold byI; rw [namesB_f hN]; rfl)
    rw [HE.out]
    rw [namesB_f hN] at CN
    clear hR hz hN HE CI hL
    generalize ts.length = n at *
    go_enter Tryz.func8, Tryz.ntmps8
    go_wp2_with fail
    refine (CN.out _ HBA.out).mono ?_
    rintro e w1 ⟨rfl, hb1⟩
    have HB1 := hid (bb HBA.out hb1)
    clear hb1 CN
    go_wp2_with fail
    go_ret
    exact ⟨rfl, HB1.out⟩
  case pos =>
    rw [namesB_t hN] at CN
    cases hI : idsB ts with
    | false =>
      have HE := hid (show byI ts x kn ke kd = false by unfold byI; rw [hI, Bool.and_false]; rfl)
      rw [HE.out]
      rw [hI] at CI
      clear hR hz hN HE hL hI
      generalize ts.length = n at *
      go_enter Tryz.func8, Tryz.ntmps8
      go_wp2_with fail
      refine (CN.out _ HBA.out).mono ?_
      rintro e w1 ⟨rfl, hb1⟩
      have HB1 := hid (bb HBA.out hb1)
      clear hb1 CN
      go_wp2_with fail
      refine (CI.out _ HB1.out).mono ?_
      rintro e w2 ⟨rfl, hb2⟩
      have HB2 := hid (bb HB1.out hb2)
      clear hb2 CI
      go_wp2_with fail
      go_ret
      exact ⟨rfl, HB2.out⟩
    | true =>
      rw [hI] at CI
      have HV := hid (by_is hN hI x kn ke kd)
      have CP := hid (fun wx (hb : Below w.heap.size w wx) => cParentSealed a cap ts x wx (hR.below hb) hn hz hN.1 hI)
      cases hP : psX ts x with
      | false =>
        have HE := hid (show byI ts x kn ke kd = false by rw [HV.out, hP]; rfl)
        have HW := hid (show wordsP ts x = .agg #[.string ⟨#[]⟩, .string ⟨#[]⟩, .string ⟨#[]⟩] by unfold wordsP; rw [hP]; rfl)
        rw [HE.out]
        rw [hP, HW.out] at CP
        clear hR hz hN HE hL hI HV HW hP
        generalize ts.length = n at *
        go_enter Tryz.func8, Tryz.ntmps8
        go_wp2_with fail
        refine (CN.out _ HBA.out).mono ?_
        rintro e w1 ⟨rfl, hb1⟩
        have HB1 := hid (bb HBA.out hb1)
        clear hb1 CN
        go_wp2_with fail
        refine (CI.out _ HB1.out).mono ?_
        rintro e w2 ⟨rfl, hb2⟩
        have HB2 := hid (bb HB1.out hb2)
        clear hb2 CI HB1
        go_wp2_with fail
        refine (CP.out _ HB2.out).mono ?_
        rintro e w3 ⟨rfl, hb3⟩
        have HB3 := hid (bb (bb HB2.out hb3) ((Below.refl w3.heap.size w3).alloc (Nat.le_refl _) (.cells #[.string ⟨#[]⟩, .string ⟨#[]⟩, .string ⟨#[]⟩] 56)))
        clear hb3 CP HB2
        go_wp2_with fail
        go_quiet (fail)
        go_wp2_with fail
        go_ret
        exact ⟨rfl, below_drewN HB3.out _⟩
      | true =>
        obtain ⟨k, rfl, hk⟩ : ∃ k : Nat, x = k ∧ k < ts.length := by
          unfold psX sealX at hP
          rw [Bool.and_eq_true, Bool.and_eq_true, decide_eq_true_eq] at hP
          exact ⟨x.toNat, by omega, by omega⟩
        have HW := hid (show wordsP ts (k : Int) = .agg #[.string (refF (atsJ ts k)), .string (sumF (atsJ ts k)), .string (sgnT (atsJ ts k))] by unfold wordsP; rw [hP]; rfl)
        rw [hP, HW.out] at CP
        have HVV := hid (show byI ts (k : Int) kn ke kd = (decide (sumF (atsJ ts k) = sumI ts (parI ts k) (k : Int)) && ownsB kn ke kd (sgnT (atsJ ts k)) (spokenF (refF (atsJ ts k)) (sumF (atsJ ts k)))) by rw [HV.out, hP]; rfl)
        rw [HVV.out]
        have CU := hid (fun wx (hb : Below w.heap.size w wx) => cSumOf a cap ts (parI ts k) (k : Int) wx (hR.below hb) hn hz (hL.below hb))
        have HZ := hid (ats_sz hz hk)
        have zr : (refF (atsJ ts k)).size ≤ 1048576 := val_sz HZ.out refS
        have zs : (sumF (atsJ ts k)).size ≤ 1048576 := val_sz HZ.out sumS
        have zg : (sgnT (atsJ ts k)).size ≤ 1048576 := val_sz HZ.out signS
        have CSP := hid (fun wx => cWordsSpoken (refF (atsJ ts k)) (sumF (atsJ ts k)) (sgnT (atsJ ts k)) wx zr zs)
        have CO := hid (fun wx => cOwns kn ke kd (sgnT (atsJ ts k)) (spokenF (refF (atsJ ts k)) (sumF (atsJ ts k))) wx hE zg (by rw [spoken_size]; omega))
        have CF := hid (fun wx => cSealerOf kn ke kd wx)
        obtain ⟨b, o, ea, -, -⟩ := hR.kindAt k hk
        subst ea
        have HK := hid (fun wx (hb : Below w.heap.size w wx) => (show wx.cell? ⟨b, o + k * 4, none⟩ = some (.int .i64 (parI ts k)) by
          obtain ⟨b', o', e', c0, -⟩ := (hR.below hb).kindAt k hk
          cases e'
          exact c0))
        have hkn : (k : Int) < (ts.length : Int) := by omega
        have E2 := str_beq (sumF (atsJ ts k)) (sumI ts (parI ts k) (k : Int))
        clear HW hR hz hN hI hP HV HVV hL hE HZ zr zs zg
        generalize ts.length = n at *
        generalize sumI ts (parI ts k) (k : Int) = SU at *
        generalize parI ts k = P at *
        generalize refF (atsJ ts k) = R at *
        generalize sumF (atsJ ts k) = S at *
        generalize sgnT (atsJ ts k) = G at *
        generalize spokenF R S = SP at *
        generalize ownsB kn ke kd G SP = OW at *
        generalize decide (S = SU) = D at *
        unfold sealerV at CF
        go_enter Tryz.func8, Tryz.ntmps8
        go_wp2_with fail
        refine (CN.out _ HBA.out).mono ?_
        rintro e w1 ⟨rfl, hb1⟩
        have HB1 := hid (bb HBA.out hb1)
        have M1 := hid (blk_below M0.out hb1)
        clear hb1 CN HBA M0
        go_wp2_with fail
        refine (CI.out _ HB1.out).mono ?_
        rintro e w2 ⟨rfl, hb2⟩
        have HB2 := hid (bb HB1.out hb2)
        have M2 := hid (blk_below M1.out hb2)
        clear hb2 CI HB1 M1
        go_wp2_with fail
        refine (CP.out _ HB2.out).mono ?_
        rintro e w3 ⟨rfl, hb3⟩
        obtain ⟨wB, hwB⟩ : ∃ wB, w3.alloc (.cells #[.string R, .string S, .string G] 56) = wB := ⟨_, rfl⟩
        have hbX : Below w3.heap.size w3 wB := by rw [← hwB]; exact (Below.refl w3.heap.size w3).alloc (Nat.le_refl _) _
        have HB3 := hid (bb (bb HB2.out hb3) hbX)
        have M3 := hid (blk_below (blk_below M2.out hb3) hbX)
        have M4 := hid (show wB.heap[w3.heap.size]? = some (.cells #[.string R, .string S, .string G] 56 (0, 0)) by rw [← hwB]; exact box_w3 w3 _ _ _ _)
        clear hb3 CP HB2 M2 hbX
        cases D with
        | false =>
          have HNB := hid (bw_any wB)
          have CU2 := hid (fun p : BW wB => CU.out p.w (bb HB3.out p.h))
          have d1 : ∀ p : BW wB, p.w.cell? ⟨w3.heap.size, 1, none⟩ = some (.string S) := fun p => (box3e (blk_below M4.out p.h)).1.2.1
          have c0 : ∀ p : BW wB, p.w.cell? ⟨b, o + k * 4, none⟩ = some (.int .i64 P) := fun p => HK.out _ (bb HB3.out p.h)
          clear CU CF CSP CO HK M3 M4
          go_wp2_with fail
          haveI := HNB.out
          refine wp_region_below (by kernel_rfl) (by kernel_rfl) (Below.refl wB.heap.size wB) ?_
          repeat (go_big_quiet_step ((go_at_call 31; exact calls_bw _ (CU2.out _))))
          refine wpQuiet_nil ?_
          intro w4 hw'
          obtain ⟨⟨wx, hb4⟩, hw''⟩ := hw'
          subst hw''
          have HB4 := hid (bb HB3.out hb4)
          clear hb4 this HNB HB3 CU2 d1 c0 hwB
          go_wp2_with fail
          go_ret
          exact ⟨rfl, HB4.out⟩
        | true =>
          have HNB := hid (bw_any wB)
          have CU2 := hid (fun p : BW wB => CU.out p.w (bb HB3.out p.h))
          have d0 : ∀ p : BW wB, p.w.cell? ⟨w3.heap.size, 0, none⟩ = some (.string R) := fun p => (box3e (blk_below M4.out p.h)).1.1
          have d1 : ∀ p : BW wB, p.w.cell? ⟨w3.heap.size, 1, none⟩ = some (.string S) := fun p => (box3e (blk_below M4.out p.h)).1.2.1
          have d2 : ∀ p : BW wB, p.w.cell? ⟨w3.heap.size, 2, none⟩ = some (.string G) := fun p => (box3e (blk_below M4.out p.h)).1.2.2
          have k0 : ∀ p : BW wB, p.w.cell? ⟨w.heap.size, 0, none⟩ = some (.int .i64 kn) := fun p => (box3e (blk_below M3.out p.h)).1.1
          have k1 : ∀ p : BW wB, p.w.cell? ⟨w.heap.size, 1, none⟩ = some (.int .i64 ke) := fun p => (box3e (blk_below M3.out p.h)).1.2.1
          have k2 : ∀ p : BW wB, p.w.cell? ⟨w.heap.size, 2, none⟩ = some (.int .i64 kd) := fun p => (box3e (blk_below M3.out p.h)).1.2.2
          have c0 : ∀ p : BW wB, p.w.cell? ⟨b, o + k * 4, none⟩ = some (.int .i64 P) := fun p => HK.out _ (bb HB3.out p.h)
          clear CU HK M3 M4
          cases hK : lkB kn ke kd with
          | true =>
            rw [hK] at CF
            clear hK
            have nk := fun wx => nil_keeper kn ke kd wx
            have mk := fun wx => meth_keeper kn ke kd wx
            go_wp2_with fail
            haveI := HNB.out
            refine wp_region_below (by kernel_rfl) (by kernel_rfl) (Below.refl wB.heap.size wB) ?_
            repeat (go_big_quiet_step ((first | (go_at_call 31; exact calls_bw _ (CU2.out _)) | (go_at_call 32; exact calls_bw _ (CF.out _)) | (go_at_call 33; exact calls_bw _ (CSP.out _)) | (go_at_call 292; exact calls_bw _ (CO.out _)))))
            refine wpQuiet_nil ?_
            intro w4 hw'
            obtain ⟨⟨wx, hb4⟩, hw''⟩ := hw'
            subst hw''
            have HB4 := hid (bb HB3.out hb4)
            clear hb4 this HNB HB3 CU2 CF CSP CO nk mk d0 d1 d2 k0 k1 k2 c0 hwB
            go_wp2_with fail
            go_ret
            exact ⟨by simp, HB4.out⟩
          | false =>
            rw [hK] at CF
            clear hK
            have nk := fun wx => nil_looker kn ke kd wx
            have mk := fun wx => meth_looker kn ke kd wx
            go_wp2_with fail
            haveI := HNB.out
            refine wp_region_below (by kernel_rfl) (by kernel_rfl) (Below.refl wB.heap.size wB) ?_
            repeat (go_big_quiet_step ((first | (go_at_call 31; exact calls_bw _ (CU2.out _)) | (go_at_call 32; exact calls_bw _ (CF.out _)) | (go_at_call 33; exact calls_bw _ (CSP.out _)) | (go_at_call 292; exact calls_bw _ (CO.out _)))))
            refine wpQuiet_nil ?_
            intro w4 hw'
            obtain ⟨⟨wx, hb4⟩, hw''⟩ := hw'
            subst hw''
            have HB4 := hid (bb HB3.out hb4)
            clear hb4 this HNB HB3 CU2 CF CSP CO nk mk d0 d1 d2 k0 k1 k2 c0 hwB
            go_wp2_with fail
            go_ret
            exact ⟨by simp, HB4.out⟩

end Go.Proofs.YtnbpcgeojmikoaaGreatDoor

namespace Go.Proofs.YtnbpcgeojmikoaaGreatDoor.Nd
open Go.ChangeShapes Go.WideShapes Go.ChangeAt Go.RowKit
set_option linter.unusedVariables false

set_option maxRecDepth 100000 in
theorem rows_of {H : Type} {enc : TypeId × Value → H} {W : World} {fuel : Nat} {v : Value} {x : DataW H × List MemPlace}
    (h : DataW.trod enc Tryz.prog W 0 (fun _ => true) true fuel 39 [v] = some x) (hlt : ∀ y ∈ x.2, y.block < W.heap.size) :
    ∃ (a : Option Addr) (cap : Nat) (ts : List Tk), v = .slice a ts.length cap ∧ ts.length ≤ maxLen ∧ TkRow W a ts ∧ TksSz maxLen ts ∧ ∀ t ∈ ts, (Lit.int .i64 t.kind).wf = true := by
  rcases Deep.open_slice Tryz.underlying39 h with ⟨hcs, hx⟩ | ⟨a, len, cap, m, n, D, Pl, hcs, _, hl, hm, hmm, hx, hall⟩
  · simp only [List.cons.injEq, and_true] at hcs
    subst hcs
    exact ⟨none, 0, [], rfl, by simp, fun j h => by simp at h, fun s h => by simp at h, fun s h => by simp at h⟩
  · simp only [List.cons.injEq, and_true] at hcs
    subst hcs
    simp only [if_true] at hmm
    subst hmm
    have ce : Tryz.prog.cellsOf 86 = 4 := by kernel_rfl
    have cA : Tryz.prog.cellsOf 84 = 1 := by kernel_rfl
    have cI : Tryz.prog.cellsOf 2 = 1 := by kernel_rfl
    have cS : Tryz.prog.cellsOf 9 = 1 := by kernel_rfl
    have each : ∀ i, i < m → ∃ q : Tk × Option Addr × Nat, W.cell? (a.add (i * 4)) = some (.int .i64 q.1.kind) ∧ W.cell? (a.add (i * 4 + 1)) = some (.string q.1.name) ∧ W.cell? (a.add (i * 4 + 2)) = some (.slice q.2.1 q.1.attrs.length q.2.2) ∧ W.cell? (a.add (i * 4 + 3)) = some (.string q.1.text)
        ∧ AtRow W q.2.1 q.1.attrs ∧ TkSz maxLen q.1 ∧ (Lit.int .i64 q.1.kind).wf = true := by
      intro i hi
      obtain ⟨cs', h1, h2⟩ := hall i hi
      rw [ce] at h1
      obtain ⟨_, hlen, hcell⟩ := World.cells?_some h1
      obtain ⟨xs, k, hk, hxy, _, hxl, hf⟩ := DataW.trod_struct Tryz.underlying86 h2
      have hpl : ∀ y ∈ Pl i, y.block < W.heap.size := fun y hy => hlt y (by rw [hx]; exact List.mem_append_right _ (List.mem_flatMap.2 ⟨i, List.mem_range.2 hi, hy⟩))
      match xs, hxl, cs', hlen with
      | [y0, y1, y2, y3], _, [v0, v1, v2, v3], _ =>
        have g0 := hf 0 _ rfl
        have g1 := hf 1 _ rfl
        have g2 := hf 2 _ rfl
        have g3 := hf 3 _ rfl
        simp [cA, cI, cS] at g0 g1 g2 g3
        have e0 := hcell 0 (by omega)
        have e1 := hcell 1 (by omega)
        have e2 := hcell 2 (by omega)
        have e3 := hcell 3 (by omega)
        rw [Deep.add_add] at e0 e1 e2 e3
        simp only [Prod.mk.injEq] at hxy
        obtain ⟨k0, hk0, _, wk⟩ := DataW.trod_int Tryz.underlying2 g0
        obtain ⟨s, hs, _, ws⟩ := DataW.trod_string Tryz.underlying9 g1
        obtain ⟨u, hu, _, wu⟩ := DataW.trod_string Tryz.underlying9 g3
        obtain ⟨aa, ca, l, rfl, wn, wr, wz⟩ := attrs_of g2 (fun y hy => hpl y (by rw [hxy.2]; simp [hy]))
        simp only [List.cons.injEq, and_true] at hk0 hs hu
        subst hk0 hs hu
        exact ⟨(⟨k0, s, l, u⟩, aa, ca), by simpa using e0, by simpa using e1, by simpa using e2, by simpa using e3, wr, ⟨ws, wn, wz, wu⟩, wk⟩
    haveI : Inhabited (Tk × Option Addr × Nat) := ⟨(⟨0, ⟨#[]⟩, [], ⟨#[]⟩⟩, none, 0)⟩
    obtain ⟨q, hq⟩ := Deep.choose_lt each
    refine ⟨some a, m, (List.range len).map fun i => (q i).1, by simp, by simp; omega, fun j hj => ?_, fun y hy => ?_, fun y hy => ?_⟩
    · simp only [List.length_map, List.length_range] at hj
      obtain ⟨b, off, spot⟩ := a
      obtain ⟨c0, c1, c2, c3, cr, _⟩ := hq j (by omega)
      have hspot : spot = none := by simpa [Addr.add] using World.cell?_spot (hq 0 (by omega)).1
      subst hspot
      rw [add_plain] at c0 c1 c2 c3
      refine ⟨b, off, (q j).2.1, (q j).2.2, rfl, hlt (.cell b off) (by rw [hx, ce]; exact List.mem_append_left _ (MemPlace.mem_row.2 ⟨0, by omega, by simp⟩)), ?_, ?_, ?_, ?_, ?_⟩
      · rw [c0]; simp
      · rw [← Nat.add_assoc] at c1; rw [c1]; simp
      · rw [← Nat.add_assoc] at c2; rw [c2]; simp
      · rw [← Nat.add_assoc] at c3; rw [c3]; simp
      · simpa using cr
    · obtain ⟨i, hi, rfl⟩ := List.mem_map.1 hy
      exact (hq i (by have := List.mem_range.1 hi; omega)).2.2.2.2.2.1
    · obtain ⟨i, hi, rfl⟩ := List.mem_map.1 hy
      exact (hq i (by have := List.mem_range.1 hi; omega)).2.2.2.2.2.2

theorem rows_arg {H : Type} {enc : TypeId × Value → H} {W : World} {v : Value} {d : DataW H} {p : List MemPlace}
    (h : DataW.Trod enc Tryz.prog W 0 (fun _ => true) true 39 v d p) (hv : ∃ a len cap, v = .slice a len cap) (hlt : ∀ y ∈ p, y.block < W.heap.size) :
    ∃ (a : Option Addr) (cap : Nat) (ts : List Tk), v = .slice a ts.length cap ∧ ts.length ≤ maxLen ∧ TkRow W a ts ∧ TksSz maxLen ts ∧ ∀ t ∈ ts, (Lit.int .i64 t.kind).wf = true := by
  obtain ⟨fuel, hf⟩ := h
  obtain ⟨a, len, cap, rfl⟩ := hv
  exact rows_of (x := (d, p)) (by simpa [Value.cells] using hf) hlt

end Go.Proofs.YtnbpcgeojmikoaaGreatDoor.Nd

namespace Go.Proofs.YtnbpcgeojmikoaaGreatDoor
open Go.RowKit
set_option linter.unusedVariables false
set_option linter.unusedSimpArgs false

theorem cToKey (n e d : Int) (w : World) :
    Calls Tryz.prog 18 #[.agg #[.int .i64 n, .int .i64 e, .int .i64 d]] w fun x w' => x = .returned (.agg #[.int .i64 n, .int .i64 e, .int .i64 d]) ∧ Below w.heap.size w w' := by
  go_enter Tryz.func18, Tryz.ntmps18
  go_wp2
  refine bodyPost_ret (v := .agg #[.int .i64 n, .int .i64 e, .int .i64 d]) (by simp [results, Tryz.results18, go_sem]) rfl ⟨rfl, ?_⟩
  repeat first | exact Below.refl _ _ | refine Below.setCell ?_ (by simp; try omega) _ | refine Below.alloc ?_ (by simp; try omega) _

end Go.Proofs.YtnbpcgeojmikoaaGreatDoor
