/-  -/
import Derived.Test.YtoioiddjbanahaaGreatDoorM40
import Derived.Test.YtoioiddjbanahaaGreatDoorM22
import Derived.Test.YtoioiddjbanahaaGreatDoorM14
import Derived.Test.YtoioiddjbanahaaGreatDoorM21
import Derived.Test.YtoioiddjbanahaaGreatDoorM15
set_option linter.unusedVariables false
set_option linter.unusedSimpArgs false
namespace Go.Proofs.YtoioiddjbanahaaGreatDoor

open Go.RowKit

theorem by_is {ts : List Tk} (hN : NamesP ts) (hI : idsB ts = true) (x n e d : Int) : byI ts x n e d = (psX ts x && (decide (sumF (atsJ ts x.toNat) = sumI ts (parI ts x.toNat) x) && ownsB n e d (sgnT (atsJ ts x.toNat)) (spokenF (refF (atsJ ts x.toNat)) (sumF (atsJ ts x.toNat))))) := by
 unfold byI psX sealX
 rw [namesB_t hN, hI, Bool.true_and, Bool.true_and]
 by_cases hx : 0 <= x /\ x < ts.length
 ·obtain ⟨k, rfl⟩ : ∃ k : Nat, x = k := ⟨x.toNat, by omega⟩
  have hk : k < ts.length := by omega
  rw [decide_eq_true hx, Bool.true_and, Bool.true_and]
  simp only [Int.toNat_natCast]
  unfold byN
  cases hS : sealN ts k with
  | false => rfl
  | true =>
   cases hF : refersN ts k with
   | false => rfl
   | true =>
    have h0 := seal_up hF
    obtain ⟨p, hp⟩ : ∃ p : Nat, parI ts k = (p : Int) := ⟨(parI ts k).toNat, by omega⟩
    have hpk := up_lt hN.1 hk hp
    have hel : elemB ts (p : Int) = true := by
     rcases (hN.1.2.2.2.2 k hk).2.1 with h' | ⟨q, hm, e', he⟩
     ·omega
     ·have : q = p := by omega
      subst this
      unfold elemB hasB
      obtain ⟨hq, hne⟩ := he
      rw [treeB_t hN.1, decide_eq_true ⟨by omega, by omega⟩, show ((q : Int)).toNat = q from rfl, nameI_at hq, decide_eq_false hne]
      rfl
    have hc : canB ts (p : Int) (k : Int) = true := by
     unfold canB
     rw [namesB_t hN, hel, decide_eq_true ⟨by omega, by omega⟩, decide_eq_false (by omega)]
     rfl
    have hsum : sumN ts (parI ts k).toNat (k : Int) = sumI ts (parI ts k) (k : Int) := by
     unfold sumN sumI
     rw [hp, canonI_yes hc]
    have hten : tenB (sgnT (atsJ ts k)) = true := by
     have hj : sealJ (atsJ ts k) = true := by
      rw [<- seal_just (names_nd hN.1 k)]
      unfold sealN at hS
      rw [Bool.and_eq_true] at hS
      exact hS.2
     unfold sealJ at hj
     rw [Bool.and_eq_true, Bool.and_eq_true] at hj
     exact hj.2.2
    unfold ownsB
    rw [hten, hsum]
    simp only [Bool.true_and]
    rfl
 ·rw [decide_eq_false hx]
  rfl

theorem nil_keeper (n e d : Int) (w : World) : (nilAhead 405 113 (.agg #[.int .i64 n, .int .i64 e, .int .i64 d]) "loop.example/g00379/impl.owns").run Tryz.prog w = .ok (some false) w := by kernel_rfl

theorem nil_looker (n e d : Int) (w : World) : (nilAhead 405 111 (.agg #[.int .i64 n, .int .i64 e, .int .i64 d]) "loop.example/g00379/impl.owns").run Tryz.prog w = .ok (some false) w := by kernel_rfl

theorem meth_keeper (n e d : Int) (w : World) : (method 405 113 (.agg #[.int .i64 n, .int .i64 e, .int .i64 d]) "loop.example/g00379/impl.owns").run Tryz.prog w = .ok (269, .agg #[.int .i64 n, .int .i64 e, .int .i64 d]) w := by kernel_rfl

theorem meth_looker (n e d : Int) (w : World) : (method 405 111 (.agg #[.int .i64 n, .int .i64 e, .int .i64 d]) "loop.example/g00379/impl.owns").run Tryz.prog w = .ok (269, .agg #[.int .i64 n, .int .i64 e, .int .i64 d]) w := by kernel_rfl

set_option maxRecDepth 8000 in
set_option maxHeartbeats 8000000 in
theorem cSealedByI (a : Option Addr) (cap : Nat) (ts : List Tk) (x kn ke kd : Int) (w : World) (hR : TkRow w a ts) (hn : ts.length <= 1048576) (hz : TksSz 1048576 ts) (hE : ke <= 9223372036854775807) (hL : Laid w) :
  Calls Tryz.prog 7 #[.slice a ts.length cap, .int .i64 x, .agg #[.int .i64 kn, .int .i64 ke, .int .i64 kd]] w fun e w' => e = .returned (.bool (byI ts x kn ke kd)) /\ Below w.heap.size w w' := by
 have HBA := hid ((Below.refl w.heap.size w).alloc (Nat.le_refl _) (.cells #[.int .i64 kn, .int .i64 ke, .int .i64 kd] 26))
 have M0 := hid (box_w3 w (.int .i64 kn) (.int .i64 ke) (.int .i64 kd) 26)
 have CN := hid (fun wx (hb : Below w.heap.size w wx) => cNamesOkI a cap ts wx (hR.below hb) hn hz)
 have CI := hid (fun wx (hb : Below w.heap.size w wx) => cIdsOkI a cap ts wx (hR.below hb) hn hz)
 by_cases hN : NamesP ts
 case neg =>
  have HE := hid (show byI ts x kn ke kd = false by unfold byI; rw [namesB_f hN]; rfl)
  rw [HE.out]
  rw [namesB_f hN] at CN
  clear hR hz hN HE CI hL
  generalize ts.length = n at *
  go_enter Tryz.func7, Tryz.ntmps7
  go_wp2_with fail
  refine (CN.out _ HBA.out).mono ?_
  rintro e w1 ⟨rfl, hb1⟩
  have HB1 := hid (bb HBA.out hb1)
  clear hb1 CN
  go_wp2_with fail
  go_ret
  exact ⟨rfl, HB1.out⟩
 case pos =>
  rw [namesB_t hN] at CN
  cases hI : idsB ts with
  | false =>
   have HE := hid (show byI ts x kn ke kd = false by unfold byI; rw [hI, Bool.and_false]; rfl)
   rw [HE.out]
   rw [hI] at CI
   clear hR hz hN HE hL hI
   generalize ts.length = n at *
   go_enter Tryz.func7, Tryz.ntmps7
   go_wp2_with fail
   refine (CN.out _ HBA.out).mono ?_
   rintro e w1 ⟨rfl, hb1⟩
   have HB1 := hid (bb HBA.out hb1)
   clear hb1 CN
   go_wp2_with fail
   refine (CI.out _ HB1.out).mono ?_
   rintro e w2 ⟨rfl, hb2⟩
   have HB2 := hid (bb HB1.out hb2)
   clear hb2 CI
   go_wp2_with fail
   go_ret
   exact ⟨rfl, HB2.out⟩
  | true =>
   rw [hI] at CI
   have HV := hid (by_is hN hI x kn ke kd)
   have CP := hid (fun wx (hb : Below w.heap.size w wx) => cParentSealed a cap ts x wx (hR.below hb) hn hz hN.1 hI)
   cases hP : psX ts x with
   | false =>
    have HE := hid (show byI ts x kn ke kd = false by rw [HV.out, hP]; rfl)
    have HW := hid (show wordsP ts x = .agg #[.string ⟨#[]⟩, .string ⟨#[]⟩, .string ⟨#[]⟩] by unfold wordsP; rw [hP]; rfl)
    rw [HE.out]
    rw [hP, HW.out] at CP
    clear hR hz hN HE hL hI HV HW hP
    generalize ts.length = n at *
    go_enter Tryz.func7, Tryz.ntmps7
    go_wp2_with fail
    refine (CN.out _ HBA.out).mono ?_
    rintro e w1 ⟨rfl, hb1⟩
    have HB1 := hid (bb HBA.out hb1)
    clear hb1 CN
    go_wp2_with fail
    refine (CI.out _ HB1.out).mono ?_
    rintro e w2 ⟨rfl, hb2⟩
    have HB2 := hid (bb HB1.out hb2)
    clear hb2 CI HB1
    go_wp2_with fail
    refine (CP.out _ HB2.out).mono ?_
    rintro e w3 ⟨rfl, hb3⟩
    have HB3 := hid (bb (bb HB2.out hb3) ((Below.refl w3.heap.size w3).alloc (Nat.le_refl _) (.cells #[.string ⟨#[]⟩, .string ⟨#[]⟩, .string ⟨#[]⟩] 53)))
    clear hb3 CP HB2
    go_wp2_with fail
    go_quiet (fail)
    go_wp2_with fail
    go_ret
    exact ⟨rfl, below_drewN HB3.out _⟩
   | true =>
    obtain ⟨k, rfl, hk⟩ : ∃ k : Nat, x = k /\ k < ts.length := by
     unfold psX sealX at hP
     rw [Bool.and_eq_true, Bool.and_eq_true, decide_eq_true_eq] at hP
     exact ⟨x.toNat, by omega, by omega⟩
    have HW := hid (show wordsP ts (k : Int) = .agg #[.string (refF (atsJ ts k)), .string (sumF (atsJ ts k)), .string (sgnT (atsJ ts k))] by unfold wordsP; rw [hP]; rfl)
    rw [hP, HW.out] at CP
    have HVV := hid (show byI ts (k : Int) kn ke kd = (decide (sumF (atsJ ts k) = sumI ts (parI ts k) (k : Int)) && ownsB kn ke kd (sgnT (atsJ ts k)) (spokenF (refF (atsJ ts k)) (sumF (atsJ ts k)))) by rw [HV.out, hP]; rfl)
    rw [HVV.out]
    have CU := hid (fun wx (hb : Below w.heap.size w wx) => cSumOf a cap ts (parI ts k) (k : Int) wx (hR.below hb) hn hz (hL.below hb))
    have HZ := hid (ats_sz hz hk)
    have zr : (refF (atsJ ts k)).size <= 1048576 := val_sz HZ.out refS
    have zs : (sumF (atsJ ts k)).size <= 1048576 := val_sz HZ.out sumS
    have zg : (sgnT (atsJ ts k)).size <= 1048576 := val_sz HZ.out signS
    have CSP := hid (fun wx => cWordsSpoken (refF (atsJ ts k)) (sumF (atsJ ts k)) (sgnT (atsJ ts k)) wx zr zs)
    have CO := hid (fun wx => cOwns kn ke kd (sgnT (atsJ ts k)) (spokenF (refF (atsJ ts k)) (sumF (atsJ ts k))) wx hE zg (by rw [spoken_size]; omega))
    have CF := hid (fun wx => cSealerOf kn ke kd wx)
    obtain ⟨b, o, ea, -, -⟩ := hR.kindAt k hk
    subst ea
    have HK := hid (fun wx (hb : Below w.heap.size w wx) => (show wx.cell? ⟨b, o + k * 4, none⟩ = some (.int .i64 (parI ts k)) by
     obtain ⟨b', o', e', c0, -⟩ := (hR.below hb).kindAt k hk
     cases e'
     exact c0))
    have hkn : (k : Int) < (ts.length : Int) := by omega
    have E2 := str_beq (sumF (atsJ ts k)) (sumI ts (parI ts k) (k : Int))
    clear HW hR hz hN hI hP HV HVV hL hE HZ zr zs zg
    generalize ts.length = n at *
    generalize sumI ts (parI ts k) (k : Int) = SU at *
    generalize parI ts k = P at *
    generalize refF (atsJ ts k) = R at *
    generalize sumF (atsJ ts k) = S at *
    generalize sgnT (atsJ ts k) = G at *
    generalize spokenF R S = SP at *
    generalize ownsB kn ke kd G SP = OW at *
    generalize decide (S = SU) = D at *
    unfold sealerV at CF
    go_enter Tryz.func7, Tryz.ntmps7
    go_wp2_with fail
    refine (CN.out _ HBA.out).mono ?_
    rintro e w1 ⟨rfl, hb1⟩
    have HB1 := hid (bb HBA.out hb1)
    have M1 := hid (blk_below M0.out hb1)
    clear hb1 CN HBA M0
    go_wp2_with fail
    refine (CI.out _ HB1.out).mono ?_
    rintro e w2 ⟨rfl, hb2⟩
    have HB2 := hid (bb HB1.out hb2)
    have M2 := hid (blk_below M1.out hb2)
    clear hb2 CI HB1 M1
    go_wp2_with fail
    refine (CP.out _ HB2.out).mono ?_
    rintro e w3 ⟨rfl, hb3⟩
    obtain ⟨wB, hwB⟩ : ∃ wB, w3.alloc (.cells #[.string R, .string S, .string G] 53) = wB := ⟨_, rfl⟩
    have hbX : Below w3.heap.size w3 wB := by rw [<- hwB]; exact (Below.refl w3.heap.size w3).alloc (Nat.le_refl _) _
    have HB3 := hid (bb (bb HB2.out hb3) hbX)
    have M3 := hid (blk_below (blk_below M2.out hb3) hbX)
    have M4 := hid (show wB.heap[w3.heap.size]? = some (.cells #[.string R, .string S, .string G] 53 (0, 0)) by rw [<- hwB]; exact box_w3 w3 _ _ _ _)
    clear hb3 CP HB2 M2 hbX
    cases D with
    | false =>
     have HNB := hid (bw_any wB)
     have CU2 := hid (fun p : BW wB => CU.out p.w (bb HB3.out p.h))
     have d1 : ∀ p : BW wB, p.w.cell? ⟨w3.heap.size, 1, none⟩ = some (.string S) := fun p => (box3e (blk_below M4.out p.h)).1.2.1
     have c0 : ∀ p : BW wB, p.w.cell? ⟨b, o + k * 4, none⟩ = some (.int .i64 P) := fun p => HK.out _ (bb HB3.out p.h)
     clear CU CF CSP CO HK M3 M4
     go_wp2_with fail
     haveI := HNB.out
     refine wp_region_below (by kernel_rfl) (by kernel_rfl) (Below.refl wB.heap.size wB) ?_
     repeat (go_big_quiet_step ((go_at_call 26; exact calls_bw _ (CU2.out _))))
     refine wpQuiet_nil ?_
     intro w4 hw'
     obtain ⟨⟨wx, hb4⟩, hw''⟩ := hw'
     subst hw''
     have HB4 := hid (bb HB3.out hb4)
     clear hb4 this HNB HB3 CU2 d1 c0 hwB
     go_wp2_with fail
     go_ret
     exact ⟨rfl, HB4.out⟩
    | true =>
     have HNB := hid (bw_any wB)
     have CU2 := hid (fun p : BW wB => CU.out p.w (bb HB3.out p.h))
     have d0 : ∀ p : BW wB, p.w.cell? ⟨w3.heap.size, 0, none⟩ = some (.string R) := fun p => (box3e (blk_below M4.out p.h)).1.1
     have d1 : ∀ p : BW wB, p.w.cell? ⟨w3.heap.size, 1, none⟩ = some (.string S) := fun p => (box3e (blk_below M4.out p.h)).1.2.1
     have d2 : ∀ p : BW wB, p.w.cell? ⟨w3.heap.size, 2, none⟩ = some (.string G) := fun p => (box3e (blk_below M4.out p.h)).1.2.2
     have k0 : ∀ p : BW wB, p.w.cell? ⟨w.heap.size, 0, none⟩ = some (.int .i64 kn) := fun p => (box3e (blk_below M3.out p.h)).1.1
     have k1 : ∀ p : BW wB, p.w.cell? ⟨w.heap.size, 1, none⟩ = some (.int .i64 ke) := fun p => (box3e (blk_below M3.out p.h)).1.2.1
     have k2 : ∀ p : BW wB, p.w.cell? ⟨w.heap.size, 2, none⟩ = some (.int .i64 kd) := fun p => (box3e (blk_below M3.out p.h)).1.2.2
     have c0 : ∀ p : BW wB, p.w.cell? ⟨b, o + k * 4, none⟩ = some (.int .i64 P) := fun p => HK.out _ (bb HB3.out p.h)
     clear CU HK M3 M4
     cases hK : lkB kn ke kd with
     | true =>
      rw [hK] at CF
      clear hK
      have nk := fun wx => nil_keeper kn ke kd wx
      have mk := fun wx => meth_keeper kn ke kd wx
      go_wp2_with fail
      haveI := HNB.out
      refine wp_region_below (by kernel_rfl) (by kernel_rfl) (Below.refl wB.heap.size wB) ?_
      repeat (go_big_quiet_step ((first | (go_at_call 26; exact calls_bw _ (CU2.out _)) | (go_at_call 27; exact calls_bw _ (CF.out _)) | (go_at_call 28; exact calls_bw _ (CSP.out _)) | (go_at_call 269; exact calls_bw _ (CO.out _)))))
      refine wpQuiet_nil ?_
      intro w4 hw'
      obtain ⟨⟨wx, hb4⟩, hw''⟩ := hw'
      subst hw''
      have HB4 := hid (bb HB3.out hb4)
      clear hb4 this HNB HB3 CU2 CF CSP CO nk mk d0 d1 d2 k0 k1 k2 c0 hwB
      go_wp2_with fail
      go_ret
      exact ⟨by simp, HB4.out⟩
     | false =>
      rw [hK] at CF
      clear hK
      have nk := fun wx => nil_looker kn ke kd wx
      have mk := fun wx => meth_looker kn ke kd wx
      go_wp2_with fail
      haveI := HNB.out
      refine wp_region_below (by kernel_rfl) (by kernel_rfl) (Below.refl wB.heap.size wB) ?_
      repeat (go_big_quiet_step ((first | (go_at_call 26; exact calls_bw _ (CU2.out _)) | (go_at_call 27; exact calls_bw _ (CF.out _)) | (go_at_call 28; exact calls_bw _ (CSP.out _)) | (go_at_call 269; exact calls_bw _ (CO.out _)))))
      refine wpQuiet_nil ?_
      intro w4 hw'
      obtain ⟨⟨wx, hb4⟩, hw''⟩ := hw'
      subst hw''
      have HB4 := hid (bb HB3.out hb4)
      clear hb4 this HNB HB3 CU2 CF CSP CO nk mk d0 d1 d2 k0 k1 k2 c0 hwB
      go_wp2_with fail
      go_ret
      exact ⟨by simp, HB4.out⟩

end Go.Proofs.YtoioiddjbanahaaGreatDoor

namespace Go.Proofs.YtoioiddjbanahaaGreatDoor

theorem valD_dec (n : Nat) : valD (Lib.decDigits n) = n := by
 induction n using Nat.strongRecOn with
 | ind n ih =>
  by_cases h : n < 10
  ·rw [dec_small h]
   simp only [valD, List.foldl_cons, List.foldl_nil, dgt_toNat n h]
   omega
  ·rw [dec_big h, valD_snoc, ih (n / 10) (by omega), dgt_toNat _ (by omega)]
   omega

theorem fold_noughts (l : List UInt8) : ∀ k, (List.replicate k (48 : UInt8) ++ l).foldl (fun n c => 10 * n + (c.toNat - 48)) 0 = l.foldl (fun n c => 10 * n + (c.toNat - 48)) 0
 | 0 => by simp
 | k + 1 => by
  rw [List.replicate_succ, List.cons_append, List.foldl_cons]
  have : 10 * 0 + ((48 : UInt8).toNat - 48) = 0 := rfl
  rw [this]
  exact fold_noughts l k

theorem valD_pad (n wd : Nat) : valD (padL n wd) = n := by
 unfold padL
 have : valD (List.replicate (wd - (Lib.decDigits n).length) 48 ++ Lib.decDigits n) = valD (Lib.decDigits n) := fold_noughts _ _
 rw [this, valD_dec]

def hsB (t : ByteArray) : Nat := hsL t.data.toList

theorem hsB_lt (t : ByteArray) : hsB t < 2147483647 := hsL_lt _

def clB (ss : List ByteArray) : Bool := ss.any fun a => ss.any fun b => decide (a ≠ b) && decide (hsB a = hsB b)

theorem clB_true {ss : List ByteArray} {a b : ByteArray} (ha : a ∈ ss) (hb : b ∈ ss) (hn : a ≠ b) (he : hsB a = hsB b) : clB ss = true := by
 unfold clB
 rw [List.any_eq_true]
 refine ⟨a, ha, ?_⟩
 rw [List.any_eq_true]
 exact ⟨b, hb, by simp [hn, he]⟩

theorem clB_false {ss : List ByteArray} (h : ∀ a ∈ ss, ∀ b ∈ ss, hsB a = hsB b -> a = b) : clB ss = false := by
 unfold clB
 rw [List.any_eq_false]
 intro a ha
 rw [Bool.not_eq_true, List.any_eq_false]
 intro b hb
 by_cases e : hsB a = hsB b
 ·simp [h a ha b hb e]
 ·simp [e]

def fidx (ss : List ByteArray) (t : ByteArray) : Nat := ss.findIdx fun u => decide (u = t)

theorem fidx_get {ss : List ByteArray} {t : ByteArray} (h : t ∈ ss) : ss[fidx ss t]? = some t := by
 have hlt : fidx ss t < ss.length := List.findIdx_lt_length_of_exists ⟨t, h, by simp⟩
 have hp := List.findIdx_getElem (xs := ss) (p := fun u => decide (u = t)) (w := hlt)
 rw [List.getElem?_eq_getElem hlt]
 exact congrArg some (of_decide_eq_true hp)

theorem fidx_inj {ss : List ByteArray} {t u : ByteArray} (ht : t ∈ ss) (hu : u ∈ ss) (h : fidx ss t = fidx ss u) : t = u := by
 have h1 := fidx_get ht
 have h2 := fidx_get hu
 rw [h, h2] at h1
 exact (Option.some.inj h1).symm

theorem fidx_at {ss : List ByteArray} {i : Nat} (hi : i < ss.length) (h : ss[i] ∉ ss.take i) : fidx ss ss[i] = i := by
 unfold fidx
 rw [List.findIdx_eq hi]
 refine ⟨by simp, fun j hj => ?_⟩
 simp only [decide_eq_false_iff_not]
 intro e
 apply h
 rw [<- e]
 exact List.mem_take_iff_getElem.2 ⟨j, by omega, rfl⟩

theorem take_next {ss : List ByteArray} {i : Nat} (hi : i < ss.length) : ss.take (i + 1) = ss.take i ++ [ss[i]] := by
 rw [List.take_succ_eq_append_getElem hi]

def stp (ss : List ByteArray) (t : ByteArray) : Int × Int := ((hsB t : Nat), (fidx ss t : Nat))

open Classical in
noncomputable def fM (ss : List ByteArray) (i : Nat) (t : ByteArray) : Option (Int × Int) := if t ∈ ss.take i then some (stp ss t) else none

theorem fM_zero (ss : List ByteArray) : fM ss 0 = fun _ => none := by
 funext t
 simp [fM]

theorem fM_in {ss : List ByteArray} {i : Nat} (hi : i < ss.length) (h : ss[i] ∈ ss.take i) : fM ss (i + 1) = fM ss i := by
 funext t
 unfold fM
 rw [take_next hi]
 by_cases h1 : t ∈ ss.take i
 ·rw [if_pos h1, if_pos (List.mem_append_left _ h1)]
 ·rw [if_neg h1, if_neg]
  intro h2
  rcases List.mem_append.1 h2 with h2 | h2
  ·exact h1 h2
  ·rw [List.mem_singleton] at h2
   exact h1 (h2 ▸ h)

theorem fM_new {ss : List ByteArray} {i : Nat} (hi : i < ss.length) (h : ss[i] ∉ ss.take i) : fM ss (i + 1) = fun t => if t = ss[i] then some (((hsB ss[i] : Nat) : Int), (i : Int)) else fM ss i t := by
 funext t
 unfold fM
 rw [take_next hi]
 by_cases h0 : t = ss[i]
 ·subst h0
  rw [if_pos (List.mem_append_right _ (List.mem_singleton_self _)), if_pos rfl]
  unfold stp
  rw [fidx_at hi h]
 ·rw [if_neg h0]
  by_cases h1 : t ∈ ss.take i
  ·rw [if_pos h1, if_pos (List.mem_append_left _ h1)]
  ·rw [if_neg h1, if_neg]
   intro h2
   rcases List.mem_append.1 h2 with h2 | h2
   ·exact h1 h2
   ·exact h0 (List.mem_singleton.1 h2)

def keyB (t : ByteArray) : ByteArray := ⟨(dgL ((hsB t : Nat) : Int)).toArray⟩

theorem keyB_inj {t u : ByteArray} (h : keyB t = keyB u) : hsB t = hsB u := by
 have h1 := hsB_lt t
 have h2 := hsB_lt u
 unfold keyB dgL at h
 rw [if_pos (by omega), if_pos (by omega)] at h
 have h3 := congrArg ByteArray.data h
 simp only [Int.toNat_natCast] at h3
 have h4 := congrArg valD (List.toArray_inj h3)
 rw [valD_pad, valD_pad] at h4
 exact h4

def gM (ss l : List ByteArray) (k : ByteArray) : Option (Int × Int) := (l.reverse.find? fun t => decide (keyB t = k)).map (stp ss)

theorem gM_snoc (ss l : List ByteArray) (t : ByteArray) : gM ss (l ++ [t]) = fun k => if k = keyB t then some (stp ss t) else gM ss l k := by
 funext k
 unfold gM
 rw [List.reverse_append, List.reverse_singleton, List.singleton_append, List.find?_cons]
 by_cases h : k = keyB t
 ·subst h
  simp
 ·have h' : ¬ keyB t = k := fun e => h e.symm
  simp [h, h']

def ClGood (ss : List ByteArray) (i : Nat) : Prop := ∀ u ∈ ss.take i, ∀ v ∈ ss.take i, hsB u = hsB v -> u = v

theorem good_zero (ss : List ByteArray) : ClGood ss 0 := by
 intro u hu
 simp at hu

theorem good_end {ss : List ByteArray} (h : ClGood ss ss.length) : clB ss = false := by
 unfold ClGood at h
 rw [List.take_length] at h
 exact clB_false h

theorem gM_some {ss : List ByteArray} {i : Nat} {k : ByteArray} {p : Int × Int} (h : gM ss (ss.take i) k = some p) : ∃ u ∈ ss.take i, keyB u = k /\ p = stp ss u := by
 unfold gM at h
 rw [Option.map_eq_some_iff] at h
 obtain ⟨u, hu, rfl⟩ := h
 have h1 := List.find?_some hu
 have h2 := List.mem_of_find?_eq_some hu
 exact ⟨u, List.mem_reverse.1 h2, of_decide_eq_true h1, rfl⟩

theorem clash_now {ss : List ByteArray} {i : Nat} (hi : i < ss.length) {p : Int × Int} (h : gM ss (ss.take i) (keyB ss[i]) = some p) (hne : p ≠ stp ss ss[i]) : clB ss = true := by
 obtain ⟨u, hu, hk, rfl⟩ := gM_some h
 refine clB_true (List.mem_of_mem_take hu) (List.getElem_mem hi) ?_ (keyB_inj hk)
 rintro rfl
 exact hne rfl

theorem clash_not {ss : List ByteArray} {i : Nat} (hi : i < ss.length) (hG : ClGood ss i) (h : gM ss (ss.take i) (keyB ss[i]) = none \/ gM ss (ss.take i) (keyB ss[i]) = some (stp ss ss[i])) : ClGood ss (i + 1) := by
 have key : ∀ u ∈ ss.take i, hsB u = hsB ss[i] -> u = ss[i] := by
  intro u hu he
  have hk : keyB u = keyB ss[i] := by unfold keyB; rw [he]
  rcases h with h | h
  ·exfalso
   unfold gM at h
   rw [Option.map_eq_none_iff, List.find?_eq_none] at h
   exact h u (List.mem_reverse.2 hu) (by simp [hk])
  ·obtain ⟨v, hv, hkv, hp⟩ := gM_some h
   have e1 : v = ss[i] := by
    refine fidx_inj (List.mem_of_mem_take hv) (List.getElem_mem hi) ?_
    have := congrArg Prod.snd hp
    simp only [stp] at this
    omega
   have e2 : u = v := hG u hu v hv (he.trans (keyB_inj hkv).symm)
   rw [e2, e1]
 intro u hu v hv he
 rw [take_next hi] at hu hv
 rcases List.mem_append.1 hu with hu | hu
 ·rcases List.mem_append.1 hv with hv | hv
  ·exact hG u hu v hv he
  ·rw [List.mem_singleton] at hv
   subst hv
   exact key u hu he
 ·rw [List.mem_singleton] at hu
  subst hu
  rcases List.mem_append.1 hv with hv | hv
  ·exact (key v hv he.symm).symm
  ·exact (List.mem_singleton.1 hv).symm

end Go.Proofs.YtoioiddjbanahaaGreatDoor

namespace Go.Proofs.YtoioiddjbanahaaGreatDoor

theorem dec_le10 (n : Nat) (h : n <= 9999999999) : (Lib.decDigits n).length <= 10 := by
 rw [Lib.decDigits_length]
 have key : ∀ (k : Nat) (u : Nat), u < 10 ^ (k + 1) -> Lib.nDigits u <= k + 1 := by
  intro k
  induction k with
  | zero => intro u hu; rw [Lib.nDigits_small (by simpa using hu)]; exact Nat.le_refl _
  | succ k ih =>
   intro u hu
   by_cases h : u < 10
   ·rw [Lib.nDigits_small h]; omega
   ·rw [Lib.nDigits_big h]
    have := ih (u / 10) (by rw [Nat.pow_succ] at hu; omega)
    omega
 exact key 9 n (by omega)

theorem pad_len10 (n : Nat) (h : n <= 9999999999) : (padL n 10).length = 10 := by
 have := dec_le10 n h
 unfold padL
 simp
 omega

theorem dig_dgt {n : Nat} (h : n < 10) : isDig (dgt n) = true := by
 unfold isDig
 rw [dgt_toNat n h]
 simp
 omega

theorem dec_dig (n : Nat) : (Lib.decDigits n).all isDig = true := by
 induction n using Nat.strongRecOn with
 | ind n ih =>
  by_cases h : n < 10
  ·rw [dec_small h]
   simp [dig_dgt h]
  ·rw [dec_big h, List.all_append, ih (n / 10) (by omega)]
   simp [dig_dgt (show n % 10 < 10 by omega)]

theorem pad_dig (n wd : Nat) : (padL n wd).all isDig = true := by
 unfold padL
 rw [List.all_append, dec_dig]
 simp only [Bool.and_true, List.all_eq_true]
 intro c hc
 rw [List.mem_replicate] at hc
 rw [hc.2]
 rfl

theorem dg_num {n : Int} (h : dgL n ≠ []) : numOf (dgL n) = (n, true) /\ (dgL n).length = 10 /\ 0 <= n /\ n <= 9999999999 := by
 by_cases hr : 0 <= n /\ n <= 9999999999
 ·have e : dgL n = padL n.toNat 10 := by unfold dgL; rw [if_pos hr]
  have hl := pad_len10 n.toNat (by omega)
  rw [e]
  refine ⟨?_, hl, hr⟩
  unfold numOf
  rw [if_pos ⟨hl, pad_dig _ _⟩, valD_pad]
  congr 1
  omega
 ·exact absurd (show dgL n = [] by unfold dgL; rw [if_neg hr]) h

end Go.Proofs.YtoioiddjbanahaaGreatDoor

namespace Go.Proofs.YtoioiddjbanahaaGreatDoor

open Go.RowKit

theorem dg_one {x y : Nat} (hx : x < 2147483647) (hy : y < 2147483647) (h : dgL (x : Int) = dgL (y : Int)) : x = y := by
 have key : ∀ z : Nat, z < 2147483647 -> dgL (z : Int) ≠ [] := fun z hz e => by
  have h1 : (dgL (z : Int)).length = 10 := by
   unfold dgL
   rw [if_pos ⟨by omega, by omega⟩]
   exact pad_len10 _ (by omega)
  rw [e] at h1
  cases h1
 have h1 := (dg_num (key x hx)).1
 have h2 := (dg_num (key y hy)).1
 rw [h, h2] at h1
 have h3 := congrArg Prod.fst h1
 simp only at h3
 omega

theorem sum_one {ts us : List Tk} {x y : Int} (h : sumI ts x y = sumI us x y) : hsB (canonI ts x y) = hsB (canonI us x y) := by
 unfold sumI at h
 have h1 : (dgL ((hsL (canonI ts x y).data.toList : Nat) : Int)) = (dgL ((hsL (canonI us x y).data.toList : Nat) : Int)) := by
  injection h with h
  simpa using h
 exact dg_one (hsL_lt _) (hsL_lt _) h1

theorem by_parts {ts : List Tk} {x n e d : Int} (h : byI ts x n e d = true) : NamesP ts /\ idsB ts = true /\ ∃ k : Nat, x = (k : Int) /\ k < ts.length /\ psX ts (k : Int) = true /\ sumF (atsJ ts k) = sumI ts (parI ts k) (k : Int) /\ ∃ p : Nat, parI ts k = (p : Int) /\ p < k := by
 have h0 := h
 unfold byI at h0
 rw [Bool.and_eq_true, Bool.and_eq_true, Bool.and_eq_true, decide_eq_true_eq] at h0
 obtain ⟨⟨⟨h1, h2⟩, h3⟩, h4⟩ := h0
 have hN : NamesP ts := by
  by_cases q : NamesP ts
  ·exact q
  ·rw [namesB_f q] at h1; cases h1
 obtain ⟨k, rfl⟩ : ∃ k : Nat, x = k := ⟨x.toNat, by omega⟩
 rw [by_is hN h2, Bool.and_eq_true, Bool.and_eq_true] at h
 obtain ⟨q1, q2, _⟩ := h
 simp only [Int.toNat_natCast] at q2
 refine ⟨hN, h2, k, rfl, by omega, q1, of_decide_eq_true q2, ?_⟩
 have hr : refersN ts k = true := by
  unfold psX at q1
  rw [Bool.and_eq_true] at q1
  exact q1.2
 have := seal_up hr
 obtain ⟨p, hp⟩ : ∃ p : Nat, parI ts k = (p : Int) := ⟨(parI ts k).toNat, by omega⟩
 exact ⟨p, hp, up_lt hN.1 (by omega) hp⟩

theorem both_clash {ts us : List Tk} {k : Nat} {n e d : Int} (h1 : byI ts (k : Int) n e d = true) (h2 : byI us (k : Int) n e d = true) (hk : us[k]? = ts[k]?) : hsB (canonI ts (parI ts k) (k : Int)) = hsB (canonI us (parI ts k) (k : Int)) := by
 obtain ⟨_, _, k1, e1, _, _, s1, _⟩ := by_parts h1
 obtain ⟨_, _, k2, e2, _, _, s2, _⟩ := by_parts h2
 have : k1 = k := by omega
 subst this
 have : k2 = k1 := by omega
 subst this
 have ha : atsJ us k2 = atsJ ts k2 := by unfold atsJ; rw [hk]
 have hp : parI us k2 = parI ts k2 := by unfold parI; rw [hk]
 rw [ha, hp] at s2
 exact sum_one (s1.symm.trans s2)

end Go.Proofs.YtoioiddjbanahaaGreatDoor
