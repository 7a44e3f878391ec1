/- Contracts of the specification's Canon, CanonAll and SameCanon. The parts that a seal seals: mathematics. The document's SealParts. -/
import Derived.Test.YtkejmifkjgpdjaaGreatM22
import Derived.Test.YtkejmifkjgpdjaaGreatM14
import Derived.Test.YtkejmifkjgpdjaaGreatM13
import Derived.Test.YtkejmifkjgpdjaaGreatM12
import Derived.Test.YtkejmifkjgpdjaaGreatM18
import Derived.Test.YtkejmifkjgpdjaaGreatM15
import Derived.Test.YtkejmifkjgpdjaaGreatM16
import Derived.Test.YtkejmifkjgpdjaaGreatM17
namespace Go.Proofs.YtkejmifkjgpdjaaGreat
open Go.RowKit
set_option linter.unusedVariables false
set_option linter.unusedSimpArgs false

/-- All is as it should be. -/
noncomputable def canB (ts : List Tk) (x y : Int) : Bool := namesB ts && (elemB ts x && (decide (-1 ≤ y ∧ y ≤ (ts.length : Int) - 1) && !decide (y = x)))

/-- The one way to write it. -/
noncomputable def canonI (ts : List Tk) (x y : Int) : ByteArray := if canB ts x y then canonN ts y ts.length x.toNat [] else ⟨#[]⟩

theorem canonI_no {ts : List Tk} {x y : Int} (h : canB ts x y = false) : canonI ts x y = ⟨#[]⟩ := by unfold canonI; rw [h]; rfl

theorem canonI_yes {ts : List Tk} {x y : Int} (h : canB ts x y = true) : canonI ts x y = canonN ts y ts.length x.toNat [] := by unfold canonI; rw [h]; rfl

set_option maxHeartbeats 2000000 in
theorem c_spec_l1InC (x lo hi : Int) (w : World) : Calls Tryz.prog 64 #[.int .i64 x, .int .i64 lo, .int .i64 hi] w fun e w' => e = .returned (.bool (decide (lo ≤ x ∧ x ≤ hi))) ∧ w' = w := by
  by_cases h1 : lo ≤ x
  · by_cases h2 : x ≤ hi
    · rw [decide_eq_true ⟨h1, h2⟩]
      go_enter Tryz.func64, Tryz.ntmps64
      go_wp2
      go_ret
      exact ⟨rfl, rfl⟩
    · rw [decide_eq_false (fun h => h2 h.2)]
      go_enter Tryz.func64, Tryz.ntmps64
      go_wp2
      go_ret
      exact ⟨rfl, rfl⟩
  · rw [decide_eq_false (fun h => h1 h.1)]
    go_enter Tryz.func64, Tryz.ntmps64
    go_wp2
    go_ret
    exact ⟨rfl, rfl⟩

/-- Both are written alike. -/
noncomputable def sameC (ts us : List Tk) : Bool := open Classical in namesB ts && (namesB us && decide (canonI ts 0 (-1) = canonI us 0 (-1)))

end Go.Proofs.YtkejmifkjgpdjaaGreat

namespace Go.Proofs.YtkejmifkjgpdjaaGreat
open Go.RowKit
set_option linter.unusedVariables false
set_option linter.unusedSimpArgs false

/-- A seal that seals its parent, in such a tree. -/
noncomputable def spB (ts : List Tk) (x : Int) : Bool := namesB ts && (idsB ts && (sealX ts x && refersN ts x.toNat))

/-- The parts. -/
noncomputable def partsL (ts : List Tk) (x : Int) : List ByteArray := if spB ts x then [canonN ts x ts.length (parI ts x.toNat).toNat [], spokenF (refF (atsJ ts x.toNat)) (sumF (atsJ ts x.toNat))] else []

theorem parts_no {ts : List Tk} {x : Int} (h : spB ts x = false) : partsL ts x = [] := by unfold partsL; rw [h]; rfl

theorem parts_len (ts : List Tk) (x : Int) : (partsL ts x).length ≤ 2 := by
  unfold partsL
  split
  · exact Nat.le_refl _
  · exact Nat.zero_le _

theorem refers_up {ts : List Tk} {k : Nat} (h : refersN ts k = true) : 0 ≤ parI ts k := by
  unfold refersN at h
  rw [Bool.and_eq_true] at h
  exact of_decide_eq_true h.1

theorem names_p {ts : List Tk} (h : namesB ts = true) : NamesP ts := by
  by_cases hN : NamesP ts
  · exact hN
  · rw [namesB_f hN] at h; cases h

/-- What Canon writes of the parent but the seal. -/
theorem parts_can {ts : List Tk} {k p : Nat} (hN : NamesP ts) (hk : k < ts.length) (hp : parI ts k = (p : Int)) : canonI ts (p : Int) (k : Int) = canonN ts (k : Int) ts.length p [] := by
  have hpk := up_lt hN.1 hk hp
  have hel : elemB ts (p : Int) = true := by
    rcases (hN.1.2.2.2.2 k hk).2.1 with h' | ⟨q, hm, e', he⟩
    · omega
    · have : q = p := by omega
      subst this
      unfold elemB hasB
      obtain ⟨hq, hne⟩ := he
      rw [treeB_t hN.1, decide_eq_true ⟨by omega, by omega⟩, show ((q : Int)).toNat = q from rfl, nameI_at hq, decide_eq_false hne]
      rfl
  have hc : canB ts (p : Int) (k : Int) = true := by
    unfold canB
    rw [namesB_t hN, hel, decide_eq_true ⟨by omega, by omega⟩, decide_eq_false (by omega)]
    rfl
  rw [canonI_yes hc]
  rfl

theorem own_two {w : World} {B : Nat} (x y : ByteArray) (hB : B ≤ w.heap.size) : (w.alloc (.cells #[.string x, .string y] 9)).ownsRow B 9 1 (.slice (some ⟨w.heap.size, 0, none⟩) 2 2) 2 (strC [x, y]) :=
  ⟨rfl, .inr ⟨w.heap.size, 2, _, rfl, hB, heap_alloc_new _ _, Nat.le_refl _, by decide, rfl, rfl⟩⟩

theorem own_nils (w : World) (B : Nat) : w.ownsRow B 9 1 (.slice none 0 0) 0 (strC []) := ⟨rfl, .inl ⟨rfl, rfl⟩⟩

theorem own_zeros {w : World} {B : Nat} (hB : B ≤ w.heap.size) : (w.alloc (.cells #[] 9)).ownsRow B 9 1 (.slice (some ⟨w.heap.size, 0, none⟩) 0 0) 0 (strC []) :=
  ⟨rfl, .inr ⟨w.heap.size, 0, _, rfl, hB, heap_alloc_new _ _, Nat.le_refl _, Nat.zero_le _, rfl, rfl⟩⟩

end Go.Proofs.YtkejmifkjgpdjaaGreat

namespace Go.Proofs.YtkejmifkjgpdjaaGreat
open Go.RowKit
set_option linter.unusedVariables false
set_option linter.unusedSimpArgs false

set_option maxRecDepth 8000 in
set_option maxHeartbeats 8000000 in
theorem cSealPartsS (a : Option Addr) (cap : Nat) (ts : List Tk) (x : Int) (w : World) (hR : TkRow w a ts) (hn : ts.length ≤ 1048576) (hz : TksSz 1048576 ts) :
    Calls Tryz.prog 5 #[.slice a ts.length cap, .int .i64 x] w fun e w' => ∃ v, e = .returned v ∧ w'.ownsRow w.heap.size 9 1 v (partsL ts x).length (strC (partsL ts x)) ∧ Below w.heap.size w w' := by
  have CN := hid (cNamesOkS a cap ts w hR hn hz)
  have CI := hid (fun wx (hb : Below w.heap.size w wx) => cIdsOkS a cap ts wx (hR.below hb) hn hz)
  cases h1 : namesB ts with
  | false =>
    rw [parts_no (by unfold spB; rw [h1]; rfl)]
    rw [h1] at CN
    clear h1 hR hz CI
    generalize ts.length = n at *
    go_enter Tryz.func5, Tryz.ntmps5
    go_wp2_with fail
    refine CN.out.mono ?_
    rintro e w1 ⟨rfl, hb1⟩
    have HB1 := hid hb1
    clear hb1 CN
    go_wp2_with fail
    go_ret
    exact ⟨_, rfl, own_zeros HB1.out.size, HB1.out.alloc HB1.out.size _⟩
  | true =>
  rw [h1] at CN
  cases h2 : idsB ts with
  | false =>
    rw [parts_no (by unfold spB; rw [h1, h2]; rfl)]
    rw [h2] at CI
    clear h1 h2 hR hz
    generalize ts.length = n at *
    go_enter Tryz.func5, Tryz.ntmps5
    go_wp2_with fail
    refine CN.out.mono ?_
    rintro e w1 ⟨rfl, hb1⟩
    have HB1 := hid hb1
    clear hb1 CN
    go_wp2_with fail
    refine (CI.out _ HB1.out).mono ?_
    rintro e w2 ⟨rfl, hb2⟩
    have HB2 := hid (bb HB1.out hb2)
    clear hb2 CI
    go_wp2_with fail
    go_ret
    exact ⟨_, rfl, own_zeros HB2.out.size, HB2.out.alloc HB2.out.size _⟩
  | true =>
  rw [h2] at CI
  by_cases hx : 0 ≤ x
  case neg =>
    rw [parts_no (by unfold spB sealX; rw [h1, h2, decide_eq_false (by omega)]; rfl)]
    have hd : decide (x < 0) = true := decide_eq_true (by omega)
    clear h1 h2 hR hz hx
    generalize ts.length = n at *
    go_enter Tryz.func5, Tryz.ntmps5
    go_wp2_with fail
    refine CN.out.mono ?_
    rintro e w1 ⟨rfl, hb1⟩
    have HB1 := hid hb1
    clear hb1 CN
    go_wp2_with fail
    refine (CI.out _ HB1.out).mono ?_
    rintro e w2 ⟨rfl, hb2⟩
    have HB2 := hid (bb HB1.out hb2)
    clear hb2 CI
    go_wp2_with fail
    go_ret
    exact ⟨_, rfl, own_zeros HB2.out.size, HB2.out.alloc HB2.out.size _⟩
  case pos =>
  by_cases hx2 : x < (ts.length : Int)
  case neg =>
    rw [parts_no (by unfold spB sealX; rw [h1, h2, decide_eq_false (by omega)]; rfl)]
    have hd : decide (x < 0) = false := decide_eq_false (by omega)
    have hd2 : decide ((ts.length : Int) ≤ x) = true := decide_eq_true (by omega)
    clear h1 h2 hR hz hx hx2
    generalize ts.length = n at *
    go_enter Tryz.func5, Tryz.ntmps5
    go_wp2_with fail
    refine CN.out.mono ?_
    rintro e w1 ⟨rfl, hb1⟩
    have HB1 := hid hb1
    clear hb1 CN
    go_wp2_with fail
    refine (CI.out _ HB1.out).mono ?_
    rintro e w2 ⟨rfl, hb2⟩
    have HB2 := hid (bb HB1.out hb2)
    clear hb2 CI
    go_wp2_with fail
    go_ret
    exact ⟨_, rfl, own_zeros HB2.out.size, HB2.out.alloc HB2.out.size _⟩
  case pos =>
  obtain ⟨k, rfl⟩ : ∃ k : Nat, x = (k : Int) := ⟨x.toNat, by omega⟩
  have hk : k < ts.length := by omega
  have hN := names_p h1
  have hT := hN.1
  have CS := hid (fun wx (hb : Below w.heap.size w wx) => c_spec_l13Seal a cap ts k wx (hR.below hb) hT hk hn hz)
  have CR := hid (fun wx (hb : Below w.heap.size w wx) => c_spec_l13Refers a cap ts k wx (hR.below hb) hT hk hn hz)
  have hd : decide ((k : Int) < 0) = false := decide_eq_false (by omega)
  have hd2 : decide ((ts.length : Int) ≤ (k : Int)) = false := decide_eq_false (by omega)
  cases hs : sealN ts k with
  | false =>
    rw [parts_no (by unfold spB sealX; rw [h1, h2, decide_eq_true ⟨hx, hx2⟩, show ((k : Int)).toNat = k from rfl, hs]; rfl)]
    rw [hs] at CS
    clear h1 h2 hR hz hx hx2 hs hT hN CR
    generalize ts.length = n at *
    go_enter Tryz.func5, Tryz.ntmps5
    go_wp2_with fail
    refine CN.out.mono ?_
    rintro e w1 ⟨rfl, hb1⟩
    have HB1 := hid hb1
    clear hb1 CN
    go_wp2_with fail
    refine (CI.out _ HB1.out).mono ?_
    rintro e w2 ⟨rfl, hb2⟩
    have HB2 := hid (bb HB1.out hb2)
    clear hb2 CI
    go_wp2_with fail
    refine (CS.out _ HB2.out).mono ?_
    rintro e w3 ⟨rfl, hb3⟩
    have HB3 := hid (bb HB2.out hb3)
    clear hb3 CS
    go_wp2_with fail
    go_ret
    exact ⟨_, rfl, own_zeros HB3.out.size, HB3.out.alloc HB3.out.size _⟩
  | true =>
  rw [hs] at CS
  cases hr : refersN ts k with
  | false =>
    rw [parts_no (by unfold spB sealX; rw [h1, h2, decide_eq_true ⟨hx, hx2⟩, show ((k : Int)).toNat = k from rfl, hs, hr]; rfl)]
    rw [hr] at CR
    clear h1 h2 hR hz hx hx2 hs hr hT hN
    generalize ts.length = n at *
    go_enter Tryz.func5, Tryz.ntmps5
    go_wp2_with fail
    refine CN.out.mono ?_
    rintro e w1 ⟨rfl, hb1⟩
    have HB1 := hid hb1
    clear hb1 CN
    go_wp2_with fail
    refine (CI.out _ HB1.out).mono ?_
    rintro e w2 ⟨rfl, hb2⟩
    have HB2 := hid (bb HB1.out hb2)
    clear hb2 CI
    go_wp2_with fail
    refine (CS.out _ HB2.out).mono ?_
    rintro e w3 ⟨rfl, hb3⟩
    have HB3 := hid (bb HB2.out hb3)
    clear hb3 CS
    go_wp2_with fail
    refine (CR.out _ HB3.out).mono ?_
    rintro e w4 ⟨rfl, rfl⟩
    clear CR
    go_wp2_with fail
    go_ret
    exact ⟨_, rfl, own_zeros HB3.out.size, HB3.out.alloc HB3.out.size _⟩
  | true =>
    rw [hr] at CR
    have HE := hid (show partsL ts (k : Int) = [canonN ts (k : Int) ts.length (parI ts k).toNat [], spokenF (refF (atsJ ts k)) (sumF (atsJ ts k))] by
      unfold partsL
      rw [if_pos (by unfold spB sealX; rw [h1, h2, decide_eq_true ⟨hx, hx2⟩, show ((k : Int)).toNat = k from rfl, hs, hr]; rfl)]
      rfl)
    rw [HE.out]
    obtain ⟨p, hp⟩ : ∃ p : Nat, parI ts k = p := ⟨(parI ts k).toNat, by have := refers_up hr; omega⟩
    have hpk := up_lt hT hk hp
    have hpl : p < ts.length := by omega
    have CY := hid (fun wx (hb : Below w.heap.size w wx) => c_spec_l13Says a cap ts k wx (hR.below hb) hk hn hz)
    have CC := hid (fun wx (hb : Below w.heap.size w wx) => c_spec_l11Canon a cap ts (k : Int) hT hz ts.length p [] none 0 wx (hR.below hb) hpl (by omega) (fun j hj => absurd hj (Nat.not_lt_zero _)) (Nat.zero_le _))
    have hz1 := val_sz (ats_sz hz hk) refS
    have hz2 := val_sz (ats_sz hz hk) sumS
    have CP := hid (fun wx => cSpokenS (refF (atsJ ts k)) (sumF (atsJ ts k)) wx hz1 hz2)
    obtain ⟨b, o, ea, c0, -⟩ := hR.kindAt k hk
    have hb0 : b < w.heap.size := by
      obtain ⟨b', o', _, _, e', h', _⟩ := hR k hk
      rw [ea] at e'
      cases e'
      exact h'
    rw [hp] at c0 ⊢
    subst ea
    have HC0 := hid (fun wx (hb : Below w.heap.size w wx) => (hb.cell (p := ⟨b, o + k * 4, none⟩) hb0).trans c0)
    rw [show ((p : Int)).toNat = p from rfl]
    clear hR hT hN hz HE hs hr hp hz1 hz2 c0 h1 h2 hx hpk hb0
    generalize canonN ts (k : Int) ts.length p [] = CT at *
    generalize refF (atsJ ts k) = R at *
    generalize sumF (atsJ ts k) = Sm at *
    generalize sgnF (atsJ ts k) = G at *
    generalize spokenF R Sm = SP at *
    generalize ts.length = n at *
    go_enter Tryz.func5, Tryz.ntmps5
    go_wp2_with fail
    refine CN.out.mono ?_
    rintro e w1 ⟨rfl, hb1⟩
    have HB1 := hid hb1
    clear hb1 CN
    go_wp2_with fail
    refine (CI.out _ HB1.out).mono ?_
    rintro e w2 ⟨rfl, hb2⟩
    have HB2 := hid (bb HB1.out hb2)
    clear hb2 CI
    go_wp2_with fail
    refine (CS.out _ HB2.out).mono ?_
    rintro e w3 ⟨rfl, hb3⟩
    have HB3 := hid (bb HB2.out hb3)
    clear hb3 CS
    go_wp2_with fail
    refine (CR.out _ HB3.out).mono ?_
    rintro e w4 ⟨rfl, rfl⟩
    clear CR
    go_wp2_with fail
    refine (CY.out _ HB3.out).mono ?_
    rintro e w4 ⟨rfl, rfl⟩
    clear CY
    have c1 := HC0.out _ HB3.out
    go_wp2_with fail
    refine (CC.out _ HB3.out).mono ?_
    rintro e w5 ⟨rfl, hb5⟩
    have HB5 := hid (bb HB3.out hb5)
    clear hb5 CC HC0 c1
    go_wp2_with fail
    refine (CP.out _).mono ?_
    rintro e w6 ⟨rfl, rfl⟩
    clear CP
    go_wp2_with fail
    go_ret
    exact ⟨_, rfl, own_two CT SP HB5.out.size, HB5.out.alloc HB5.out.size _⟩

end Go.Proofs.YtkejmifkjgpdjaaGreat
