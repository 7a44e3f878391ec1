/- The program's SealParts. -/
import Derived.Test.YtkejmifkjgpdjaaGreatM23
import Derived.Test.YtkejmifkjgpdjaaGreatM30
import Derived.Test.YtkejmifkjgpdjaaGreatM36
import Derived.Test.YtkejmifkjgpdjaaGreatM29
import Derived.Deep.RegionHeld3
namespace Go.Proofs.YtkejmifkjgpdjaaGreat
open Go.RowKit
set_option linter.unusedVariables false
set_option linter.unusedSimpArgs false

set_option maxRecDepth 8000 in
set_option maxHeartbeats 8000000 in
theorem cSealPartsI (a : Option Addr) (cap : Nat) (ts : List Tk) (x : Int) (w : World) (hR : TkRow w a ts) (hn : ts.length ≤ 1048576) (hz : TksSz 1048576 ts) :
    Calls Tryz.prog 7 #[.slice a ts.length cap, .int .i64 x] w fun e w' => ∃ v, e = .returned v ∧ w'.ownsRow w.heap.size 9 1 v (partsL ts x).length (strC (partsL ts x)) ∧ Below w.heap.size w w' := by
  have CN := hid (cNamesOkI a cap ts w hR hn hz)
  have CI := hid (fun wx (hb : Below w.heap.size w wx) => cIdsOkI a cap ts wx (hR.below hb) hn hz)
  cases h1 : namesB ts with
  | false =>
    rw [parts_no (by unfold spB; rw [h1]; rfl)]
    rw [h1] at CN
    clear h1 hR hz CI
    generalize ts.length = n at *
    go_enter Tryz.func7, Tryz.ntmps7
    go_wp2_with fail
    refine CN.out.mono ?_
    rintro e w1 ⟨rfl, hb1⟩
    have HB1 := hid hb1
    clear hb1 CN
    go_wp2_with fail
    go_ret
    exact ⟨_, rfl, own_nils _ _, HB1.out⟩
  | true =>
  rw [h1] at CN
  cases h2 : idsB ts with
  | false =>
    rw [parts_no (by unfold spB; rw [h1, h2]; rfl)]
    rw [h2] at CI
    clear h1 h2 hR hz
    generalize ts.length = n at *
    go_enter Tryz.func7, Tryz.ntmps7
    go_wp2_with fail
    refine CN.out.mono ?_
    rintro e w1 ⟨rfl, hb1⟩
    have HB1 := hid hb1
    clear hb1 CN
    go_wp2_with fail
    refine (CI.out _ HB1.out).mono ?_
    rintro e w2 ⟨rfl, hb2⟩
    have HB2 := hid (bb HB1.out hb2)
    clear hb2 CI
    go_wp2_with fail
    go_ret
    exact ⟨_, rfl, own_nils _ _, HB2.out⟩
  | true =>
  rw [h2] at CI
  have hN := names_p h1
  have hT := hN.1
  have CS := hid (fun wx (hb : Below w.heap.size w wx) => cParentSealed a cap ts x wx (hR.below hb) hn hz hT h2)
  cases hp : psX ts x with
  | false =>
    rw [parts_no (by unfold spB; rw [h1, h2]; unfold psX at hp; rw [hp]; rfl)]
    rw [hp] at CS
    have HW := hid (show wordsP ts x = wordsV ⟨#[]⟩ ⟨#[]⟩ ⟨#[]⟩ by unfold wordsP; rw [hp]; rfl)
    rw [HW.out] at CS
    unfold wordsV at CS
    clear h1 h2 hR hz hN hT hp HW
    generalize ts.length = n at *
    go_enter Tryz.func7, Tryz.ntmps7
    go_wp2_with fail
    refine CN.out.mono ?_
    rintro e w1 ⟨rfl, hb1⟩
    have HB1 := hid hb1
    clear hb1 CN
    go_wp2_with fail
    refine (CI.out _ HB1.out).mono ?_
    rintro e w2 ⟨rfl, hb2⟩
    have HB2 := hid (bb HB1.out hb2)
    clear hb2 CI
    go_wp2_with fail
    refine (CS.out _ HB2.out).mono ?_
    rintro e w3 ⟨rfl, hb3⟩
    have HB3 := hid ((bb HB2.out hb3).alloc (bb HB2.out hb3).size (.cells #[.string ⟨#[]⟩, .string ⟨#[]⟩, .string ⟨#[]⟩] 48))
    clear hb3 CS
    go_wp2_with fail
    go_ret
    exact ⟨_, rfl, own_nils _ _, HB3.out⟩
  | true =>
    have hsr : sealX ts x = true ∧ refersN ts x.toNat = true := by
      unfold psX at hp
      rwa [Bool.and_eq_true] at hp
    obtain ⟨hs, hr⟩ := hsr
    obtain ⟨k, rfl, hk⟩ : ∃ k : Nat, x = k ∧ k < ts.length := by
      unfold sealX at hs
      rw [Bool.and_eq_true, decide_eq_true_eq] at hs
      exact ⟨x.toNat, by omega, by omega⟩
    rw [show ((k : Int)).toNat = k from rfl] at hr
    have HE := hid (show partsL ts (k : Int) = [canonN ts (k : Int) ts.length (parI ts k).toNat [], spokenF (refF (atsJ ts k)) (sumF (atsJ ts k))] by
      unfold partsL
      rw [if_pos (by unfold spB; rw [h1, h2, hs, show ((k : Int)).toNat = k from rfl, hr]; rfl)]
      rfl)
    rw [HE.out]
    have HW := hid (show wordsP ts (k : Int) = wordsV (refF (atsJ ts k)) (sumF (atsJ ts k)) (sgnT (atsJ ts k)) by unfold wordsP; rw [hp]; rfl)
    rw [hp, HW.out] at CS
    unfold wordsV at CS
    obtain ⟨p, hpp⟩ : ∃ p : Nat, parI ts k = p := ⟨(parI ts k).toNat, by have := refers_up hr; omega⟩
    have CC := hid (fun wx (hb : Below w.heap.size w wx) => cCanonJ a cap ts (p : Int) (k : Int) wx (hR.below hb) hn hz)
    rw [parts_can hN hk hpp] at CC
    have hz1 := val_sz (ats_sz hz hk) refS
    have hz2 := val_sz (ats_sz hz hk) sumS
    have CP := hid (fun wx => cWordsSpoken (refF (atsJ ts k)) (sumF (atsJ ts k)) (sgnT (atsJ ts k)) wx hz1 hz2)
    obtain ⟨b, o, ea, c0, -⟩ := hR.kindAt k hk
    have hb0 : b < w.heap.size := by
      obtain ⟨b', o', _, _, e', h', _⟩ := hR k hk
      rw [ea] at e'
      cases e'
      exact h'
    rw [hpp] at c0 ⊢
    subst ea
    have HC0 := hid (fun wx (hb : Below w.heap.size w wx) => (hb.cell (p := ⟨b, o + k * 4, none⟩) hb0).trans c0)
    rw [show ((p : Int)).toNat = p from rfl]
    have hkn : (k : Int) < (ts.length : Int) := by omega
    clear hR hT hN hz HE hs hr hp hpp hz1 hz2 c0 h1 h2 hb0 HW hk
    generalize canonN ts (k : Int) ts.length p [] = CT at *
    generalize refF (atsJ ts k) = R at *
    generalize sumF (atsJ ts k) = Sm at *
    generalize sgnT (atsJ ts k) = G at *
    generalize spokenF R Sm = SP at *
    generalize ts.length = n at *
    go_enter Tryz.func7, Tryz.ntmps7
    go_wp2_with fail
    refine CN.out.mono ?_
    rintro e w1 ⟨rfl, hb1⟩
    have HB1 := hid hb1
    clear hb1 CN
    go_wp2_with fail
    refine (CI.out _ HB1.out).mono ?_
    rintro e w2 ⟨rfl, hb2⟩
    have HB2 := hid (bb HB1.out hb2)
    clear hb2 CI
    go_wp2_with fail
    refine (CS.out _ HB2.out).mono ?_
    rintro e w3 ⟨rfl, hb3⟩
    have HB3 := hid (bb HB2.out hb3)
    clear hb3 CS
    have HBX := hid ((Below.refl w3.heap.size w3).alloc (Nat.le_refl _) (.cells #[.string R, .string Sm, .string G] 48))
    have HX := hid (heap_alloc_new w3 (.cells #[.string R, .string Sm, .string G] 48))
    have HB4 := hid (bb HB3.out HBX.out)
    obtain ⟨w4, hw4⟩ : ∃ w4, w3.alloc (.cells #[.string R, .string Sm, .string G] 48) = w4 := ⟨_, rfl⟩
    go_wp2_with fail
    try simp only [hw4]
    rw [hw4] at HX HB4
    clear HBX hw4
    obtain ⟨P, hP⟩ : ∃ P, w3.heap.size = P := ⟨_, rfl⟩
    rw [hP] at HX
    try simp only [hP]
    clear hP
    have HBc := hid (HB4.out.drew)
    have HSY := hid (show ∀ w' : World, Below w.heap.size w w' → Below w4.heap.size w4 w' → w'.cell? ⟨b, o + k * 4, none⟩ = some (.int .i64 (p : Int)) ∧ w'.cell? ⟨P, 0, none⟩ = some (.string R) ∧ w'.cell? ⟨P, 1, none⟩ = some (.string Sm) ∧ w'.cell? ⟨P, 2, none⟩ = some (.string G) from fun w' h h2 => ⟨HC0.out _ h, (box3e (blk_below HX.out h2)).1⟩)
    have HBd := hid ((Below.refl w4.heap.size w4).drew)
    clear HC0 HX
    go_region_held3 (fun w' => w'.cell? ⟨b, o + k * 4, none⟩ = some (.int .i64 (p : Int)) ∧ w'.cell? ⟨P, 0, none⟩ = some (.string R) ∧ w'.cell? ⟨P, 1, none⟩ = some (.string Sm) ∧ w'.cell? ⟨P, 2, none⟩ = some (.string G)) (first | with_reducible exact HSY.out _ HBc.out HBd.out | with_reducible exact HSY.out _ HB8.out HB9.out)
      (first
        | (go_at_call 25; with_reducible refine (CC.out _ HBc.out).mono ?_; rintro e w7 ⟨rfl, hb7⟩
           have HBn := hid (bb HBc.out hb7)
           have HBm := hid (bb HBd.out hb7)
           clear hb7 HBc HBd
           have HBc := HBn
           have HBd := HBm
           clear HBn HBm
           have HB8 := hid (HBc.out.alloc HBc.out.size (.cells #[.string CT, .string SP] 9))
           have HB9 := hid (HBd.out.alloc HBd.out.size (.cells #[.string CT, .string SP] 9)))
        | (go_at_call 26; with_reducible refine (CP.out _).mono ?_; rintro e w7 ⟨rfl, hb7⟩
           have HBn := hid (bb HBc.out hb7)
           have HBm := hid (bb HBd.out hb7)
           clear hb7 HBc HBd
           have HBc := HBn
           have HBd := HBm
           clear HBn HBm
           have HB8 := hid (HBc.out.alloc HBc.out.size (.cells #[.string CT, .string SP] 9))
           have HB9 := hid (HBd.out.alloc HBd.out.size (.cells #[.string CT, .string SP] 9))))
    all_goals
      go_wp2_with fail
      go_ret
      exact ⟨_, rfl, own_two CT SP HBc.out.size, HB8.out⟩

end Go.Proofs.YtkejmifkjgpdjaaGreat
