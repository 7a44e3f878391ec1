/- Contracts of the specification's Canon, CanonAll and SameCanon. Contracts of EndOf, KidsOf and TextIn of the program. Contract of KidsOf of the program. -/
import Derived.Test.YtmghipjpgoghlaaGreatM28
import Derived.Test.YtmghipjpgoghlaaGreatM12
import Derived.Test.YtmghipjpgoghlaaGreatM11
import Derived.Test.YtmghipjpgoghlaaGreatM19
import Derived.Test.YtmghipjpgoghlaaGreatM15
namespace Go.Proofs.YtmghipjpgoghlaaGreat
open Go.RowKit
set_option linter.unusedVariables false
set_option linter.unusedSimpArgs false

/-- All is as it should be. -/
noncomputable def canB (ts : List Tk) (x y : Int) : Bool := namesB ts && (elemB ts x && (decide (-1 ≤ y ∧ y ≤ (ts.length : Int) - 1) && !decide (y = x)))

/-- The one way to write it. -/
noncomputable def canonI (ts : List Tk) (x y : Int) : ByteArray := if canB ts x y then canonN ts y ts.length x.toNat [] else ⟨#[]⟩

theorem canonI_no {ts : List Tk} {x y : Int} (h : canB ts x y = false) : canonI ts x y = ⟨#[]⟩ := by unfold canonI; rw [h]; rfl

theorem canonI_yes {ts : List Tk} {x y : Int} (h : canB ts x y = true) : canonI ts x y = canonN ts y ts.length x.toNat [] := by unfold canonI; rw [h]; rfl

set_option maxHeartbeats 2000000 in
theorem c_spec_l1InC (x lo hi : Int) (w : World) : Calls Tryz.prog 43 #[.int .i64 x, .int .i64 lo, .int .i64 hi] w fun e w' => e = .returned (.bool (decide (lo ≤ x ∧ x ≤ hi))) ∧ w' = w := by
  by_cases h1 : lo ≤ x
  · by_cases h2 : x ≤ hi
    · rw [decide_eq_true ⟨h1, h2⟩]
      go_enter Tryz.func43, Tryz.ntmps43
      go_wp2
      go_ret
      exact ⟨rfl, rfl⟩
    · rw [decide_eq_false (fun h => h2 h.2)]
      go_enter Tryz.func43, Tryz.ntmps43
      go_wp2
      go_ret
      exact ⟨rfl, rfl⟩
  · rw [decide_eq_false (fun h => h1 h.1)]
    go_enter Tryz.func43, Tryz.ntmps43
    go_wp2
    go_ret
    exact ⟨rfl, rfl⟩

set_option maxRecDepth 4000 in
set_option maxHeartbeats 4000000 in
theorem cCanonS (a : Option Addr) (cap : Nat) (ts : List Tk) (x y : Int) (w : World) (hR : TkRow w a ts) (hn : ts.length ≤ 1048576) (hz : TksSz 1048576 ts) :
    Calls Tryz.prog 13 #[.slice a ts.length cap, .int .i64 x, .int .i64 y] w fun e w' => e = .returned (.string (canonI ts x y)) ∧ Below w.heap.size w w' := by
  have CN := hid (cNamesOkS a cap ts w hR hn hz)
  have CE := hid (fun wx (hb : Below w.heap.size w wx) => c_spec_l9Element a cap ts x wx (hR.below hb) hn hz)
  have CI := hid (fun wx => c_spec_l1InC y (-1) ((ts.length : Int) - 1) wx)
  have hlen : (0 : Int) ≤ (ts.length : Int) ∧ (ts.length : Int) ≤ 1048576 := by omega
  cases h1 : namesB ts with
  | false =>
    rw [canonI_no (by unfold canB; rw [h1]; rfl)]
    rw [h1] at CN
    clear hR hz h1 CE CI
    generalize ts.length = n at *
    go_enter Tryz.func13, Tryz.ntmps13
    go_wp2_with fail
    refine CN.out.mono ?_
    rintro e w1 ⟨rfl, hb1⟩
    have HB1 := hid hb1
    clear hb1 CN
    go_wp2_with fail
    go_ret
    exact ⟨rfl, HB1.out⟩
  | true =>
    rw [h1] at CN
    cases h2 : elemB ts x with
    | false =>
      rw [canonI_no (by unfold canB; rw [h1, h2]; rfl)]
      rw [h2] at CE
      clear hR hz h1 h2 CI
      generalize ts.length = n at *
      go_enter Tryz.func13, Tryz.ntmps13
      go_wp2_with fail
      refine CN.out.mono ?_
      rintro e w1 ⟨rfl, hb1⟩
      have HB1 := hid hb1
      clear hb1 CN
      go_wp2_with fail
      refine (CE.out _ HB1.out).mono ?_
      rintro e w2 ⟨rfl, hb2⟩
      have HB2 := hid (bb HB1.out hb2)
      clear hb2 CE
      go_wp2_with fail
      go_ret
      exact ⟨rfl, HB2.out⟩
    | true =>
      rw [h2] at CE
      cases h3 : decide (-1 ≤ y ∧ y ≤ (ts.length : Int) - 1) with
      | false =>
        rw [canonI_no (by unfold canB; rw [h1, h2, h3]; rfl)]
        rw [h3] at CI
        clear hR hz h1 h2 h3
        generalize ts.length = n at *
        go_enter Tryz.func13, Tryz.ntmps13
        go_wp2_with fail
        refine CN.out.mono ?_
        rintro e w1 ⟨rfl, hb1⟩
        have HB1 := hid hb1
        clear hb1 CN
        go_wp2_with fail
        refine (CE.out _ HB1.out).mono ?_
        rintro e w2 ⟨rfl, hb2⟩
        have HB2 := hid (bb HB1.out hb2)
        clear hb2 CE
        go_wp2_with fail
        refine (CI.out _).mono ?_
        rintro e w3 ⟨rfl, rfl⟩
        go_wp2_with fail
        go_ret
        exact ⟨rfl, HB2.out⟩
      | true =>
        rw [h3] at CI
        by_cases h4 : y = x
        · rw [canonI_no (by unfold canB; rw [h1, h2, h3, decide_eq_true h4]; rfl)]
          subst h4
          have hyy : (y == y) = true := by simp
          clear hR hz h1 h2 h3
          generalize ts.length = n at *
          go_enter Tryz.func13, Tryz.ntmps13
          go_wp2_with fail
          refine CN.out.mono ?_
          rintro e w1 ⟨rfl, hb1⟩
          have HB1 := hid hb1
          clear hb1 CN
          go_wp2_with fail
          refine (CE.out _ HB1.out).mono ?_
          rintro e w2 ⟨rfl, hb2⟩
          have HB2 := hid (bb HB1.out hb2)
          clear hb2 CE
          go_wp2_with fail
          refine (CI.out _).mono ?_
          rintro e w3 ⟨rfl, rfl⟩
          go_wp2_with fail
          go_ret
          exact ⟨rfl, HB2.out⟩
        · rw [canonI_yes (by unfold canB; rw [h1, h2, h3, decide_eq_false h4]; rfl)]
          obtain ⟨hT, k, rfl, hk⟩ := elemB_t h2
          have hyy : (y == (k : Int)) = false := by simpa using h4
          have CC := hid (fun wx (hb : Below w.heap.size w wx) => c_spec_l11Canon a cap ts y hT hz ts.length k [] none 0 wx (hR.below hb) hk (by omega) (fun i hi => absurd hi (Nat.not_lt_zero _)) (Nat.zero_le _))
          rw [show ((k : Int).toNat) = k from rfl]
          clear hR hz h1 h2 h3 h4 hT hk
          generalize canonN ts y ts.length k [] = R at *
          generalize ts.length = n at *
          go_enter Tryz.func13, Tryz.ntmps13
          go_wp2_with fail
          refine CN.out.mono ?_
          rintro e w1 ⟨rfl, hb1⟩
          have HB1 := hid hb1
          clear hb1 CN
          go_wp2_with fail
          refine (CE.out _ HB1.out).mono ?_
          rintro e w2 ⟨rfl, hb2⟩
          have HB2 := hid (bb HB1.out hb2)
          clear hb2 CE
          go_wp2_with fail
          refine (CI.out _).mono ?_
          rintro e w3 ⟨rfl, rfl⟩
          go_wp2_with fail
          refine (CC.out _ HB2.out).mono ?_
          rintro e w4 ⟨rfl, hb4⟩
          have HB4 := hid (bb HB2.out hb4)
          clear hb4 CC
          go_wp2_with fail
          go_ret
          exact ⟨rfl, HB4.out⟩

set_option maxHeartbeats 2000000 in
theorem cCanonAllS (a : Option Addr) (cap : Nat) (ts : List Tk) (w : World) (hR : TkRow w a ts) (hn : ts.length ≤ 1048576) (hz : TksSz 1048576 ts) :
    Calls Tryz.prog 15 #[.slice a ts.length cap] w fun e w' => e = .returned (.string (canonI ts 0 (-1))) ∧ Below w.heap.size w w' := by
  have C := hid (cCanonS a cap ts 0 (-1) w hR hn hz)
  clear hR hz
  generalize canonI ts 0 (-1) = R at *
  generalize ts.length = n at *
  go_enter Tryz.func15, Tryz.ntmps15
  go_wp2_with fail
  refine C.out.mono ?_
  rintro e w1 ⟨rfl, hb1⟩
  have HB1 := hid hb1
  clear hb1 C
  go_wp2_with fail
  go_ret
  exact ⟨rfl, HB1.out⟩

/-- Both are written alike. -/
noncomputable def sameC (ts us : List Tk) : Bool := open Classical in namesB ts && (namesB us && decide (canonI ts 0 (-1) = canonI us 0 (-1)))

set_option maxRecDepth 4000 in
set_option maxHeartbeats 4000000 in
theorem cSameCanonS (a a2 : Option Addr) (cap cap2 : Nat) (ts us : List Tk) (w : World) (hR : TkRow w a ts) (hR2 : TkRow w a2 us) (hn : ts.length ≤ 1048576) (hn2 : us.length ≤ 1048576) (hz : TksSz 1048576 ts) (hz2 : TksSz 1048576 us) :
    Calls Tryz.prog 22 #[.slice a ts.length cap, .slice a2 us.length cap2] w fun e w' => e = .returned (.bool (sameC ts us)) ∧ Below w.heap.size w w' := by
  have CN := hid (cNamesOkS a cap ts w hR hn hz)
  have CN2 := hid (fun wx (hb : Below w.heap.size w wx) => cNamesOkS a2 cap2 us wx (hR2.below hb) hn2 hz2)
  have CA := hid (fun wx (hb : Below w.heap.size w wx) => cCanonAllS a cap ts wx (hR.below hb) hn hz)
  have CA2 := hid (fun wx (hb : Below w.heap.size w wx) => cCanonAllS a2 cap2 us wx (hR2.below hb) hn2 hz2)
  have HSM := hid (show sameC ts us = (namesB ts && (namesB us && ((canonI ts 0 (-1)).toList == (canonI us 0 (-1)).toList))) by unfold sameC; rw [str_beq])
  rw [HSM.out]
  clear hR hR2 hz hz2 HSM
  generalize canonI ts 0 (-1) = R1 at *
  generalize canonI us 0 (-1) = R2 at *
  generalize namesB ts = N1 at *
  generalize namesB us = N2 at *
  generalize ts.length = n at *
  generalize us.length = n2 at *
  cases N1 with
  | false =>
    clear CN2 CA CA2
    go_enter Tryz.func22, Tryz.ntmps22
    go_wp2_with fail
    refine CN.out.mono ?_
    rintro e w1 ⟨rfl, hb1⟩
    have HB1 := hid hb1
    clear hb1 CN
    go_wp2_with fail
    go_ret
    exact ⟨rfl, HB1.out⟩
  | true =>
    cases N2 with
    | false =>
      clear CA CA2
      go_enter Tryz.func22, Tryz.ntmps22
      go_wp2_with fail
      refine CN.out.mono ?_
      rintro e w1 ⟨rfl, hb1⟩
      have HB1 := hid hb1
      clear hb1 CN
      go_wp2_with fail
      refine (CN2.out _ HB1.out).mono ?_
      rintro e w2 ⟨rfl, hb2⟩
      have HB2 := hid (bb HB1.out hb2)
      clear hb2 CN2
      go_wp2_with fail
      go_ret
      exact ⟨rfl, HB2.out⟩
    | true =>
      go_enter Tryz.func22, Tryz.ntmps22
      go_wp2_with fail
      refine CN.out.mono ?_
      rintro e w1 ⟨rfl, hb1⟩
      have HB1 := hid hb1
      clear hb1 CN
      go_wp2_with fail
      refine (CN2.out _ HB1.out).mono ?_
      rintro e w2 ⟨rfl, hb2⟩
      have HB2 := hid (bb HB1.out hb2)
      clear hb2 CN2
      go_wp2_with fail
      refine (CA.out _ HB2.out).mono ?_
      rintro e w3 ⟨rfl, hb3⟩
      have HB3 := hid (bb HB2.out hb3)
      clear hb3 CA
      go_wp2_with fail
      refine (CA2.out _ HB3.out).mono ?_
      rintro e w4 ⟨rfl, hb4⟩
      have HB4 := hid (bb HB3.out hb4)
      clear hb4 CA2
      go_wp2_with fail
      go_ret
      exact ⟨rfl, HB4.out⟩

end Go.Proofs.YtmghipjpgoghlaaGreat

namespace Go.Proofs.YtmghipjpgoghlaaGreat
open Go.RowKit
set_option linter.unusedVariables false
set_option linter.unusedSimpArgs false

end Go.Proofs.YtmghipjpgoghlaaGreat

namespace Go.Proofs.YtmghipjpgoghlaaGreat
open Go.RowKit
set_option linter.unusedVariables false
set_option linter.unusedSimpArgs false

theorem kid_ahead {ts : List Tk} (h : TreeP ts) {i k : Nat} (hi : i < ts.length) (hp : parI ts i = (k : Int)) : k < i := by
  rcases Nat.eq_zero_or_pos i with h0 | h0
  · subst h0
    rw [h.2.2.1] at hp
    omega
  · rcases (h.2.2.2.2 i hi).2.1 with h' | ⟨p, hm, e, _⟩
    · omega
    · obtain ⟨j, rfl⟩ : ∃ j, i = j + 1 := ⟨i - 1, by omega⟩
      have := (linked_all j (fun m hm => (h.2.2.2.2 m (by omega)).2.1)).2 p hm
      omega

theorem kidsTo_step {ts : List Tk} {k e : Nat} (h : parI ts e = (k : Int) → k < e) : kidsTo ts k (e + 1) = kidsTo ts k e ++ (if parI ts e = (k : Int) then [e] else []) := by
  unfold kidsTo
  rw [List.range_succ, List.filter_append]
  congr 1
  by_cases q : parI ts e = (k : Int)
  · simp [h q, q]
  · simp [q]

set_option maxRecDepth 8000 in
set_option maxHeartbeats 4000000 in
theorem cKidsOfI (a : Option Addr) (cap : Nat) (ts : List Tk) (x : Int) (w : World) (hR : TkRow w a ts) (hn : ts.length ≤ 1048576) (hz : TksSz 1048576 ts) :
    Calls Tryz.prog 127 #[.slice a ts.length cap, .int .i64 x] w fun e w' => ∃ v, e = .returned v ∧ w'.ownsRow w.heap.size 2 1 v (kidsI ts x).length (intC (kidsI ts x)) ∧ Below w.heap.size w w' := by
  have C := hid (cThere a cap ts x w hR hn hz)
  have HR := hid hR
  have HZ := hid hz
  cases q : hasB ts x
  · have e1 : kidsI ts x = [] := by unfold kidsI; rw [q]; rfl
    rw [e1]
    rw [q] at C
    clear hz hR e1
    generalize ts.length = n at *
    go_enter Tryz.func127, Tryz.ntmps127
    go_wp2_with fail
    refine C.out.mono ?_
    rintro e w1 ⟨rfl, hb1⟩
    have HB1 := hid hb1
    clear hb1
    go_wp2_with fail
    go_ret
    exact ⟨_, rfl, World.ownsRow_nil _ _ _ _, HB1.out⟩
  obtain ⟨hT, k, rfl, hk⟩ := hasB_t q
  have e1 : kidsI ts (k : Int) = kidsN ts k := by unfold kidsI; rw [q]; rfl
  obtain ⟨i0, hi, hz0, hz1, hz2⟩ := info_parts info64
  have HI := hid (And.intro hi (And.intro hz0 (And.intro hz1 hz2)))
  have HAH := hid (fun i (h : i < ts.length) => kid_ahead hT h (k := k))
  rw [e1]
  rw [q] at C
  clear hz hR e1 q hT hi hz0 hz1 hz2
  obtain ⟨V, hV⟩ : ∃ V, kidsN ts k = V := ⟨_, rfl⟩
  have HV := hid hV
  rw [hV]
  clear hV
  obtain ⟨n, hnn⟩ : ∃ n, ts.length = n := ⟨_, rfl⟩
  have HN := hid hnn
  rw [hnn] at hn hk C ⊢
  clear hnn
  go_enter Tryz.func127, Tryz.ntmps127
  go_wp2_with fail
  refine C.out.mono ?_
  rintro e w1 ⟨rfl, hb1⟩
  have HB1 := hid hb1
  clear hb1 C
  go_wp2_with fail
  go_loopw [5, 14] (fun v x wr => ∃ e : Nat, x = .int .i64 (e : Int) ∧ e ≤ n ∧ Hid (wr.ownsRow w.heap.size 2 1 v (kidsTo ts k e).length (intC (kidsTo ts k e))) ∧ Hid (Below w.heap.size w wr)) (fun _ x _ => n - (intOf x).toNat)
  case atStart => exact ⟨0, rfl, Nat.zero_le _, World.ownsRow_nil _ _ _ _, HB1.out⟩
  case round =>
    clear HB1
    obtain ⟨e, rfl, h2, HO, HB⟩ := hrel
    by_cases hlt : e < n
    case neg =>
      have hee : e = n := by omega
      subst hee
      have HW := hid (show kidsTo ts k e = V by rw [← HV.out]; unfold kidsN; rw [HN.out])
      have HO2 := HO.out
      rw [HW.out] at HO2
      have HO3 := hid HO2
      clear HO2 HO
      go_wp2_with fail
      go_ret
      exact ⟨_, rfl, HO3.out, HB.out⟩
    have hes : e < ts.length := by rw [HN.out]; exact hlt
    have hin : (e : Int) < (n : Int) := by omega
    have HX := hid (kidsTo_step (ts := ts) (k := k) (HAH.out e hes))
    have HPI := hid (parI_at hes)
    obtain ⟨b, o, aa, ca, rfl, hb, c0, c1, c2, c3, cr⟩ := HR.out.below HB.out e hes
    clear cr
    rw [HPI.out] at HX
    have HOB := hid (HO.out.alloc (.cells #[.int .i64 ts[e].kind, .string ts[e].name, .slice aa ts[e].attrs.length ca, .string ts[e].text] 33))
    have HBB := hid (HB.out.alloc HB.out.size (.cells #[.int .i64 ts[e].kind, .string ts[e].name, .slice aa ts[e].attrs.length ca, .string ts[e].text] 33))
    have hsz := HB.out.size
    have hlen := kidsTo_len ts k e
    by_cases hp : ts[e].kind = (k : Int)
    · rw [if_pos hp] at HX
      have hd : (ts[e].kind == (k : Int)) = true := by simpa using hp
      clear HPI hp
      generalize ts[e].kind = P at *
      generalize ts[e].name = nm at *
      generalize ts[e].attrs.length = al at *
      generalize ts[e].text = tx at *
      obtain ⟨hi, hz0, hz1, hz2⟩ := HI.out
      have HOA := hid (HOB.out.alloc (.cells #[.int .i64 (e : Int)] 2))
      have hlen2 : (intC (kidsTo ts k e)).length ≤ e := by rw [intC_len]; exact hlen
      have HL2 := hid hlen2
      obtain ⟨a5, c5, hv5⟩ := own_len HO.out
      clear hlen2
      subst hv5
      obtain ⟨kl, hkl⟩ : ∃ kl, (kidsTo ts k e).length = kl := ⟨_, rfl⟩
      rw [hkl] at hlen HOA HO HOB ⊢
      have HKL := hid hkl
      clear hkl
      go_wp2_with (at_builtin; refine wpList_append_own _ rfl _ _ 118 rfl w.heap.size 2 i0 (.int .i64 0) 1 8 Tryz.underlying118 hi hz0 hz1 hz2 rfl (by decide) _ _ _ rfl HOA.out ⟨wr.heap.size + 1, 0, none⟩ 1 1 [.int .i64 (e : Int)] rfl rfl ?c1 ?c2 ?c3 ?c4 ?c5 ?_)
      case c1 =>
        have := one_cell64 (wr.alloc (.cells #[.int .i64 P, .string nm, .slice aa al ca, .string tx] 33)) (.int .i64 (e : Int))
        rw [show (wr.alloc (.cells #[.int .i64 P, .string nm, .slice aa al ca, .string tx] 33)).heap.size = wr.heap.size + 1 by simp] at this
        exact this
      case c2 => exact one_one64 _
      case c3 => unfold maxLen; omega
      case c4 => omega
      case c5 => simp; omega
      intro v' w2 hown' hgrow _
      have HO2 := hid (show w2.ownsRow w.heap.size 2 1 v' (kidsTo ts k (e + 1)).length (intC (kidsTo ts k (e + 1))) by rw [HX.out, intC_app, List.length_append, HKL.out]; exact hown')
      have HB2 := hid ((HBB.out.alloc (by simp; omega) (.cells #[.int .i64 (e : Int)] 2)).grown hgrow (by simp; omega) (fun g hg => (HOA.out.lt g hg).1))
      clear hown' hgrow
      go_wp2_with fail
      go_roundw
      case rel => exact ⟨e + 1, by go_num, by omega, HO2.out, HB2.out⟩
      case measure => simp [intOf]; omega
    · rw [if_neg hp, List.append_nil] at HX
      have hd : (ts[e].kind == (k : Int)) = false := by simpa using hp
      clear hp HPI
      generalize ts[e].kind = P at *
      generalize ts[e].name = nm at *
      generalize ts[e].attrs.length = al at *
      generalize ts[e].text = tx at *
      go_wp2_with fail
      go_roundw
      case rel => exact ⟨e + 1, by go_num, by omega, by rw [HX.out]; exact HOB.out, HBB.out⟩
      case measure => simp [intOf]; omega

end Go.Proofs.YtmghipjpgoghlaaGreat
