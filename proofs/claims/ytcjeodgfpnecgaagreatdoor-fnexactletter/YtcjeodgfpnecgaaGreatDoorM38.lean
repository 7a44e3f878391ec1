/- The program's firstOf where a letter may have the identifier. The program's Letter. The specification's l18Letter, Letter. -/
import Derived.Test.YtcjeodgfpnecgaaGreatDoorM37
import Derived.Test.YtcjeodgfpnecgaaGreatDoorM33
import Derived.Test.YtcjeodgfpnecgaaGreatDoorM21
import Derived.Test.YtcjeodgfpnecgaaGreatDoorM27
import Derived.Deep.Cut
import Derived.Deep.CutRange
import Derived.Deep.RegionHeld3
namespace Go.Proofs.YtcjeodgfpnecgaaGreatDoor
open Go.RowKit
set_option linter.unusedVariables false
set_option linter.unusedSimpArgs false

/-- What firstOf tells. -/
def FirstAns (w : World) (id : ByteArray) (e : Ending) (w' : World) : Prop :=
  ∃ a' c', e = .returned (.tuple #[.agg #[.int .i64 (-1), .string letterS, .slice a' (ltrAts id).length c', .string ⟨#[]⟩], .bool true]) ∧ OwnAts w' w.heap.size a' (ltrAts id) ∧ Below w.heap.size w w'

set_option maxRecDepth 8000 in
set_option maxHeartbeats 4000000 in
theorem cFirstOne (id cid : ByteArray) (w : World) (hs : id.size ≤ 1048576) (h0 : id.size = 0) :
    Calls Tryz.prog 18 #[.string id, .string cid] w (FirstAns w id) := by
  have CU := hid (fun wx => cIdUse id cid wx hs)
  have hu : useI id cid = 1 := if_pos h0
  rw [hu] at CU
  have HLA := hid (ltrAts_none h0)
  have CI := hid q_itself
  have CD := hid cDeclL
  have HB0 := hid ((Below.refl w.heap.size w).alloc (Nat.le_refl _) (.cells #[.int .i64 0, .string ⟨#[]⟩, .slice none 0 0, .string ⟨#[]⟩] 44))
  have M0 := hid (heap_alloc_new w (.cells #[.int .i64 0, .string ⟨#[]⟩, .slice none 0 0, .string ⟨#[]⟩] 44))
  have e1 : (⟨#[108]⟩ : ByteArray) ++ ⟨#[58]⟩ = ⟨#[108, 58]⟩ := rfl
  have e2 : (⟨#[108, 58]⟩ : ByteArray) ++ ⟨#[76, 101, 116, 116, 101, 114]⟩ = letterS := rfl
  have z1 : (⟨#[108]⟩ : ByteArray).size + (⟨#[58]⟩ : ByteArray).size ≤ 9223372036854775807 := by decide
  have z2 : (⟨#[108, 58]⟩ : ByteArray).size + (⟨#[76, 101, 116, 116, 101, 114]⟩ : ByteArray).size ≤ 9223372036854775807 := by decide
  unfold claimS at CD
  clear h0 hu hs
  go_enter Tryz.func18, Tryz.ntmps18
  go_wp2_with fail
  refine (CI.out _).mono ?_
  rintro e w1 ⟨rfl, hb1⟩
  have HB1 := hid (bb HB0.out hb1)
  have M1 := hid (blk_below M0.out hb1)
  clear hb1
  go_wp2_with fail
  refine (CD.out _).mono ?_
  rintro e w2 ⟨rfl, hb2⟩
  have HB2 := hid (bb HB1.out hb2)
  have M2 := hid (blk_below M1.out hb2)
  have HS2 := hid (show w.heap.size < w2.heap.size from lt_of_heap M2.out)
  clear hb2 M1 HB1
  go_upto_region 2 with fail
  have HA := hid (let_heap2 w2 (.cells #[.string nsLS, .string ⟨#[99, 108, 97, 105, 109]⟩] 58) (.cells #[.int .i64 (-1), .string letterS, .slice (some ⟨w2.heap.size, 0, none⟩) 1 1, .string ⟨#[]⟩] 44))
  have M3 := hid (blk_alloc (blk_alloc M2.out (.cells #[.string nsLS, .string ⟨#[99, 108, 97, 105, 109]⟩] 58)) (.cells #[.int .i64 (-1), .string letterS, .slice (some ⟨w2.heap.size, 0, none⟩) 1 1, .string ⟨#[]⟩] 44))
  have HB3 := hid ((HB2.out.alloc HB2.out.size (.cells #[.string nsLS, .string ⟨#[99, 108, 97, 105, 109]⟩] 58)).alloc (HB2.out.alloc HB2.out.size _).size (.cells #[.int .i64 (-1), .string letterS, .slice (some ⟨w2.heap.size, 0, none⟩) 1 1, .string ⟨#[]⟩] 44))
  obtain ⟨w3, hw3⟩ : ∃ w3, (w2.alloc (.cells #[.string nsLS, .string ⟨#[99, 108, 97, 105, 109]⟩] 58)).alloc (.cells #[.int .i64 (-1), .string letterS, .slice (some ⟨w2.heap.size, 0, none⟩) 1 1, .string ⟨#[]⟩] 44) = w3 := ⟨_, rfl⟩
  rw [hw3] at HA M3 HB3 ⊢
  clear hw3
  obtain ⟨⟨n0, n1, n2, n3⟩, nf⟩ := box4 HA.out.2
  obtain ⟨⟨k0, k1, k2, k3⟩, kf⟩ := box4 M3.out
  go_wp2_with fail
  refine (CU.out _).mono ?_
  rintro e w4 ⟨rfl, hw4⟩
  obtain rfl := hw4.symm
  go_wp2_with fail
  refine bodyPost_ret (v := .tuple #[.agg #[.int .i64 (-1), .string letterS, .slice (some ⟨w2.heap.size, 0, none⟩) 1 1, .string ⟨#[]⟩], .bool true]) (by simp [results, Tryz.results18, go_sem, k0, k1, k2, k3]) rfl ⟨some ⟨w2.heap.size, 0, none⟩, 1, by rw [HLA.out]; rfl, ?_, ?_⟩
  · rw [HLA.out]
    refine own_lift (B' := w.heap.size + 1) ?_ (Nat.le_succ _)
    iterate 4 refine own_setG ?_ (show w.heap.size < w.heap.size + 1 from Nat.lt_succ_self _) _
    exact own_of (show w.heap.size + 1 ≤ w2.heap.size from HS2.out) HA.out.1 (cells_one _ _)
  · iterate 4 refine Below.setCell ?_ (show w.heap.size ≤ w.heap.size from Nat.le_refl _) _
    exact HB3.out

set_option maxRecDepth 8000 in
set_option maxHeartbeats 4000000 in
theorem cFirstTwo (id cid : ByteArray) (w : World) (hs : id.size ≤ 1048576) (h0 : ¬ id.size = 0) (hu : useI id cid = 2) :
    Calls Tryz.prog 18 #[.string id, .string cid] w (FirstAns w id) := by
  have CU := hid (fun wx => cIdUse id cid wx hs)
  rw [hu] at CU
  have HLA := hid (ltrAts_one h0)
  have CI := hid q_itself
  have CD := hid cDeclL
  have HB0 := hid ((Below.refl w.heap.size w).alloc (Nat.le_refl _) (.cells #[.int .i64 0, .string ⟨#[]⟩, .slice none 0 0, .string ⟨#[]⟩] 44))
  have M0 := hid (heap_alloc_new w (.cells #[.int .i64 0, .string ⟨#[]⟩, .slice none 0 0, .string ⟨#[]⟩] 44))
  have e1 : (⟨#[108]⟩ : ByteArray) ++ ⟨#[58]⟩ = ⟨#[108, 58]⟩ := rfl
  have e2 : (⟨#[108, 58]⟩ : ByteArray) ++ ⟨#[76, 101, 116, 116, 101, 114]⟩ = letterS := rfl
  have z1 : (⟨#[108]⟩ : ByteArray).size + (⟨#[58]⟩ : ByteArray).size ≤ 9223372036854775807 := by decide
  have z2 : (⟨#[108, 58]⟩ : ByteArray).size + (⟨#[76, 101, 116, 116, 101, 114]⟩ : ByteArray).size ≤ 9223372036854775807 := by decide
  unfold claimS at CD
  clear h0 hu hs
  go_enter Tryz.func18, Tryz.ntmps18
  go_wp2_with fail
  refine (CI.out _).mono ?_
  rintro e w1 ⟨rfl, hb1⟩
  have HB1 := hid (bb HB0.out hb1)
  have M1 := hid (blk_below M0.out hb1)
  clear hb1
  go_wp2_with fail
  refine (CD.out _).mono ?_
  rintro e w2 ⟨rfl, hb2⟩
  have HB2 := hid (bb HB1.out hb2)
  have M2 := hid (blk_below M1.out hb2)
  have HS2 := hid (show w.heap.size < w2.heap.size from lt_of_heap M2.out)
  clear hb2 M1 HB1
  go_upto_region 2 with fail
  have HA := hid (let_heap2 w2 (.cells #[.string nsLS, .string ⟨#[99, 108, 97, 105, 109]⟩] 58) (.cells #[.int .i64 (-1), .string letterS, .slice (some ⟨w2.heap.size, 0, none⟩) 1 1, .string ⟨#[]⟩] 44))
  have M3 := hid (blk_alloc (blk_alloc M2.out (.cells #[.string nsLS, .string ⟨#[99, 108, 97, 105, 109]⟩] 58)) (.cells #[.int .i64 (-1), .string letterS, .slice (some ⟨w2.heap.size, 0, none⟩) 1 1, .string ⟨#[]⟩] 44))
  have HB3 := hid ((HB2.out.alloc HB2.out.size (.cells #[.string nsLS, .string ⟨#[99, 108, 97, 105, 109]⟩] 58)).alloc (HB2.out.alloc HB2.out.size _).size (.cells #[.int .i64 (-1), .string letterS, .slice (some ⟨w2.heap.size, 0, none⟩) 1 1, .string ⟨#[]⟩] 44))
  obtain ⟨w3, hw3⟩ : ∃ w3, (w2.alloc (.cells #[.string nsLS, .string ⟨#[99, 108, 97, 105, 109]⟩] 58)).alloc (.cells #[.int .i64 (-1), .string letterS, .slice (some ⟨w2.heap.size, 0, none⟩) 1 1, .string ⟨#[]⟩] 44) = w3 := ⟨_, rfl⟩
  rw [hw3] at HA M3 HB3 ⊢
  clear hw3
  obtain ⟨⟨n0, n1, n2, n3⟩, nf⟩ := box4 HA.out.2
  obtain ⟨⟨k0, k1, k2, k3⟩, kf⟩ := box4 M3.out
  obtain ⟨i0, hi, hz0, hz1, hz2⟩ := info_parts infoAtW
  have HI := hid (And.intro hi (And.intro hz0 (And.intro hz1 hz2)))
  clear hi hz0 hz1 hz2
  obtain ⟨s2, hs2⟩ : ∃ s2, w2.heap.size = s2 := ⟨_, rfl⟩
  rw [hs2] at HA HS2 n2 ⊢
  clear hs2
  have HL3 := hid (show s2 + 1 < w3.heap.size from lt_of_heap HA.out.2)
  have HB4 := hid (HB3.out.alloc HB3.out.size (.cells #[.string idS, .string id] 58))
  have HN4 := hid (blk_alloc HA.out.2 (.cells #[.string idS, .string id] 58))
  have M4 := hid (blk_alloc M3.out (.cells #[.string idS, .string id] 58))
  have HO := hid (show (w3.alloc (.cells #[.string idS, .string id] 58)).ownsRow (w.heap.size + 1) 58 2 (.slice (some ⟨s2, 0, none⟩) 1 1) 1 (atC [⟨nsLS, claimS⟩]) from ⟨rfl, .inr ⟨s2, 1, _, rfl, HS2.out, blk_alloc HA.out.1 _, Nat.le_refl _, by decide, rfl, rfl⟩⟩)
  have HR := hid (show AtRow (w3.alloc (.cells #[.string idS, .string id] 58)) (some ⟨w3.heap.size, 0, none⟩) [⟨idS, id⟩] from (cells_one idS id).atRow (heap_alloc_new w3 _))
  unfold idS at HR HO HB4 HN4 M4
  go_wp2_with fail
  refine (CU.out _).mono ?_
  rintro e w4 ⟨rfl, hw4⟩
  obtain rfl := hw4.symm
  go_wp2_with (at_builtin; refine wpList_append_own_at _ rfl _ _ 29 rfl (w.heap.size + 1) 58 i0 _ 2 32 Tryz.underlying29 HI.out.1 HI.out.2.1 HI.out.2.2.1 HI.out.2.2.2 rfl (by decide) (.slice (some ⟨s2, 0, none⟩) 1 1) 1 (atC [⟨nsLS, claimS⟩]) rfl HO.out ⟨w3.heap.size, 0, none⟩ 1 1 _ rfl rfl (atC_row HR.out) (atC_one _) (by decide) (by decide) ?c5 ?_)
  case c5 =>
    have := HB4.out.size
    have := HS2.out
    have := HL3.out
    simp
    omega
  intro v' w5 hown hgrow _ hblk
  obtain ⟨a5, c5, rfl, hoa⟩ := own_ats (l := [⟨nsLS, claimS⟩, ⟨idS, id⟩]) hown rfl
  have HB5 := hid (HB4.out.grown hgrow HB4.out.size (fun g hg => Nat.le_trans (Nat.le_succ _) (HO.out.lt g hg).1))
  have HN5 := hid ((hgrow.block (s2 + 1) (lt_of_heap HN4.out) (fun e => by have e' : s2 + 1 = s2 := Option.some.inj e; omega)).trans HN4.out)
  have M5 := hid ((hgrow.block w.heap.size (lt_of_heap M4.out) (fun e => by have e' : w.heap.size = s2 := Option.some.inj e; have := HS2.out; omega)).trans M4.out)
  have HOA := hid (show ∀ v, OwnAts (w5.setCell ⟨s2 + 1, 2, none⟩ v) (w.heap.size + 1) a5 [⟨nsLS, claimS⟩, ⟨idS, id⟩] from fun v hl => by
    obtain ⟨g, o, cu, rfl, h2, h3, h4⟩ := hoa hl
    refine ⟨g, o, cu, rfl, h2, (Below.heap_setCell w5 ⟨s2 + 1, 2, none⟩ v g (fun e => ?_)).trans h3, h4⟩
    have e' : g = s2 + 1 := e
    have hL := HL3.out
    rcases hblk with h | h
    · have : g = s2 := Option.some.inj h
      omega
    · have : g = w3.heap.size + 1 := by simpa using (Option.some.inj h)
      omega)
  have HNE := hid (show ¬ w.heap.size = s2 + 1 by have := HS2.out; omega)
  clear hown hgrow hblk hoa n0 n1 n2 n3 nf k0 k1 k2 k3 kf HI HO HR HB4 HN4 M4 HA M3
  obtain ⟨⟨n0, n1, n2, n3⟩, nf⟩ := box4 HN5.out
  go_upto_region 6 with fail
  have HN6 := hid (show (w5.setCell ⟨s2 + 1, 2, none⟩ (.slice a5 2 c5)).heap[s2 + 1]? = some (.cells #[.int .i64 (-1), .string letterS, .slice a5 2 c5, .string ⟨#[]⟩] 44 (0, 0)) from box_set HN5.out 2 (.slice a5 2 c5))
  have M6 := hid ((Below.heap_setCell w5 ⟨s2 + 1, 2, none⟩ (.slice a5 2 c5) w.heap.size HNE.out).trans M5.out)
  have HB6 := hid (HB5.out.setCell (p := ⟨s2 + 1, 2, none⟩) (show w.heap.size ≤ s2 + 1 by have := HS2.out; omega) (.slice a5 2 c5))
  have HO6 := hid (HOA.out (.slice a5 2 c5))
  obtain ⟨w6, hw6⟩ : ∃ w6, w5.setCell ⟨s2 + 1, 2, none⟩ (.slice a5 2 c5) = w6 := ⟨_, rfl⟩
  rw [hw6] at HN6 M6 HB6 HO6 ⊢
  clear hw6 n0 n1 n2 n3 nf HN5 M5 HB5 HOA
  obtain ⟨⟨n0, n1, n2, n3⟩, nf⟩ := box4 HN6.out
  obtain ⟨⟨k0, k1, k2, k3⟩, kf⟩ := box4 M6.out
  go_wp2_with fail
  refine bodyPost_ret (v := .tuple #[.agg #[.int .i64 (-1), .string letterS, .slice a5 2 c5, .string ⟨#[]⟩], .bool true]) (by simp [results, Tryz.results18, go_sem, k0, k1, k2, k3]) rfl ⟨a5, c5, by rw [HLA.out]; rfl, ?_, ?_⟩
  · rw [HLA.out]
    refine own_lift (B' := w.heap.size + 1) ?_ (Nat.le_succ _)
    iterate 4 refine own_setG ?_ (show w.heap.size < w.heap.size + 1 from Nat.lt_succ_self _) _
    exact HO6.out
  · iterate 4 refine Below.setCell ?_ (show w.heap.size ≤ w.heap.size from Nat.le_refl _) _
    exact HB6.out

/-- Where a letter may have the identifier. -/
theorem cFirstYes (id cid : ByteArray) (w : World) (hs : id.size ≤ 1048576) (hu : ¬ useI id cid = 0) :
    Calls Tryz.prog 18 #[.string id, .string cid] w (FirstAns w id) := by
  by_cases h0 : id.size = 0
  · exact cFirstOne id cid w hs h0
  · refine cFirstTwo id cid w hs h0 ?_
    unfold useI at hu ⊢
    rw [if_neg h0] at hu ⊢
    split at hu
    · rename_i h
      rw [if_pos h]
    · exact absurd rfl hu

end Go.Proofs.YtcjeodgfpnecgaaGreatDoor

namespace Go.Proofs.YtcjeodgfpnecgaaGreatDoor
open Go.RowKit
set_option linter.unusedVariables false
set_option linter.unusedSimpArgs false

theorem ltrAts_len (id : ByteArray) : (ltrAts id).length ≤ 2 := by
  by_cases h : id.size = 0
  · rw [ltrAts_none h]; decide
  · rw [ltrAts_one h]; exact Nat.le_refl 2

theorem headL_sz {id : ByteArray} (h : id.size ≤ 1048576) : TksSz 1048576 [headL id] := fun t ht => by
  rw [List.mem_singleton.1 ht]
  refine ⟨show letterS.size ≤ 1048576 by decide, Nat.le_trans (ltrAts_len id) (by decide), fun x hx => ?_, show nE.size ≤ 1048576 by decide⟩
  have hx' : x ∈ ltrAts id := hx
  by_cases h0 : id.size = 0
  · rw [ltrAts_none h0] at hx'
    rw [List.mem_singleton.1 hx']
    exact ⟨by decide, by decide⟩
  · rw [ltrAts_one h0] at hx'
    rcases List.mem_cons.1 hx' with rfl | hx'
    · exact ⟨by decide, by decide⟩
    · rw [List.mem_singleton.1 hx']
      exact ⟨show idS.size ≤ 1048576 by decide, h⟩

theorem head_row {w : World} {g : Nat} {id : ByteArray} {a : Option Addr} {c : Nat} (hg : w.heap[g]? = some (.cells #[.int .i64 (-1), .string letterS, .slice a (ltrAts id).length c, .string ⟨#[]⟩] 44 (0, 0))) (ha : AtRow w a (ltrAts id)) : TkRow w (some ⟨g, 0, none⟩) [headL id] := by
  have t := fun j => Lib.cell_of_heap hg j
  intro j hj
  have hj' : j < 1 := hj
  obtain rfl : j = 0 := by omega
  exact ⟨g, 0, a, c, rfl, lt_of_heap hg, (t 0).trans rfl, (t 1).trans rfl, (t 2).trans rfl, (t 3).trans rfl, ha⟩

/-- Where the identifier may not be that of a letter of the claim. -/
theorem ltrB_use {c : Cm} {id : ByteArray} (h : useI id c.id = 0) : ltrB c id = false := by
  unfold ltrB luseB
  unfold useI at h
  by_cases h0 : id.size = 0
  · rw [if_pos h0] at h
    cases h
  · rw [if_neg h0] at h
    by_cases h1 : (idOk id && !decide (id = c.id)) = true
    · rw [if_pos h1] at h
      cases h
    · have h2 : (idOk id && !decide (id = c.id)) = false := by simpa using h1
      rw [decide_eq_false h0, Bool.false_or, h2, Bool.and_false]

theorem ltrB_graft {c : Cm} {id : ByteArray} (h : ¬ useI id c.id = 0) : graftB [headL id] (claimT c (qTx c.frm) (qTx c.til)) 0 = ltrB c id ∧ (ltrB c id = true → graftL [headL id] (claimT c (qTx c.frm) (qTx c.til)) 0 = ltrL c id) := by
  cases hc : claimB c with
  | false =>
    have e : claimT c (qTx c.frm) (qTx c.til) = [] := if_neg (by rw [hc]; decide)
    have e2 : ltrB c id = false := by unfold ltrB; rw [hc]; rfl
    rw [e, e2]
    exact ⟨letter_none id, fun h => by cases h⟩
  | true =>
    have e : claimT c (qTx c.frm) (qTx c.til) = treeTo c (qTx c.frm) (qTx c.til) 6 := if_pos hc
    have hu : luseB c id = true := by
      unfold luseB
      unfold useI at h
      by_cases h0 : id.size = 0
      · have hne : ¬ id = c.id := fun e => id_ne (claim_parts hc).1 (by rw [← e]; exact h0)
        rw [decide_eq_true h0, decide_eq_false hne]
        rfl
      · rw [if_neg h0] at h
        by_cases h1 : (idOk id && !decide (id = c.id)) = true
        · rw [decide_eq_false h0, Bool.false_or]
          exact h1
        · rw [if_neg h1] at h
          exact absurd rfl h
    have hb : ltrB c id = true := by unfold ltrB; rw [hc, hu]; rfl
    obtain ⟨g1, g2⟩ := letter_graft hb
    rw [e]
    exact ⟨by rw [g2, hb], fun _ => g1⟩

set_option maxRecDepth 16000 in
set_option maxHeartbeats 16000000 in
theorem cLetterI (c : Cm) (a : Option Addr) (cap : Nat) (id : ByteArray) (w : World) (hR : AtRow w a c.facts) (hz : CmSz 1048576 c) (hL : Laid w) (hi : id.size ≤ 1048576) :
    Calls Tryz.prog 7 #[cmV c a cap, .string id] w (TreeAns w (ltrL c id) (ltrB c id)) := by
  have HX := hid (ClBox.new w c (.slice a c.facts.length cap) 31)
  have HB0 := hid ((Below.refl w.heap.size w).alloc (Nat.le_refl _) (.cells #[.string c.id, .string c.iss, .string c.sub, .int .i64 c.frm, .int .i64 c.til, .string c.whom, .string c.ans, .slice a c.facts.length cap] 31))
  have CN := hid (fun (h : useI id c.id = 0) wx => cFirstNo id c.id wx hi h)
  have CY := hid (fun (h : ¬ useI id c.id = 0) wx => cFirstYes id c.id wx hi h)
  have CT := hid (fun wx (h : Below w.heap.size w wx) => cClaimTreeI c a cap wx (hR.below h) hz (hL.below h) (qTx_sz _) (qTx_sz _))
  have CO := hid cOrNot
  have hok := claimT_ok hz
  have CG := hid (fun (g : Nat) (a' : Option Addr) (c' : Nat) (a4 : Option Addr) (c4 : Nat) wx (hg : wx.heap[g]? = some (.cells #[.int .i64 (-1), .string letterS, .slice a' (ltrAts id).length c', .string ⟨#[]⟩] 44 (0, 0))) (ha : AtRow wx a' (ltrAts id)) (h4 : TkRow wx a4 (claimT c (qTx c.frm) (qTx c.til))) => show Calls Tryz.prog 20 #[.slice (some ⟨g, 0, none⟩) 1 1, .int .i64 0, .slice a4 (claimT c (qTx c.frm) (qTx c.til)).length c4] wx (fun e w' => ∃ v, e = .returned (.tuple #[v, .bool (graftB [headL id] (claimT c (qTx c.frm) (qTx c.til)) 0)]) ∧ RowOf wx w' v (graftL [headL id] (claimT c (qTx c.frm) (qTx c.til)) 0)) from cGraftedI (some ⟨g, 0, none⟩) a4 1 c4 [headL id] (claimT c (qTx c.frm) (qTx c.til)) 0 wx (head_row hg ha) h4 (Nat.le_refl 1) (by decide : 1 ≤ 1048576) (Nat.le_trans hok.2.2 (by decide)) (headL_sz hi) hok.1)
  have HU := hid (fun (h : useI id c.id = 0) => ltrB_use (c := c) h)
  have HV := hid (fun (h : ¬ useI id c.id = 0) => ltrB_graft (c := c) h)
  have HLF := hid (fun (h : ltrB c id = false) => ltrL_f h)
  unfold cmV at CT ⊢
  unfold FirstAns at CY
  generalize useI id c.id = u at *
  clear hR hz hL hi hok
  obtain ⟨L, hLL⟩ : ∃ L, ltrL c id = L := ⟨_, rfl⟩
  rw [hLL] at HV HLF ⊢
  clear hLL
  generalize claimT c (qTx c.frm) (qTx c.til) = T at *
  obtain ⟨GB, hGB⟩ : ∃ G, graftB [headL id] T 0 = G := ⟨_, rfl⟩
  obtain ⟨GL, hGL⟩ : ∃ G, graftL [headL id] T 0 = G := ⟨_, rfl⟩
  rw [hGB, hGL] at CG HV
  clear hGB hGL
  generalize ltrB c id = VB at *
  have HNA := hid (ltrAts_len id)
  generalize ltrAts id = la at *
  obtain ⟨w0, hw0⟩ : ∃ w0, w.alloc (.cells #[.string c.id, .string c.iss, .string c.sub, .int .i64 c.frm, .int .i64 c.til, .string c.whom, .string c.ans, .slice a c.facts.length cap] 31) = w0 := ⟨_, rfl⟩
  rw [hw0] at HX HB0
  obtain ⟨B, hB⟩ : ∃ B, w.heap.size = B := ⟨_, rfl⟩
  have HBE := hid hB
  rw [hB] at HX
  obtain ⟨f0, f1, f2, f3, f4, f5, f6, f7⟩ := And.intro HX.out.c0 (And.intro HX.out.c1 (And.intro HX.out.c2 (And.intro HX.out.c3 (And.intro HX.out.c4 (And.intro HX.out.c5 (And.intro HX.out.c6 HX.out.c7))))))
  by_cases hu : u = 0
  · replace CN := hid (CN.out hu)
    have HVB := hid (HU.out hu)
    clear CY HV CT CG CO hu HU
    go_enter Tryz.func7, Tryz.ntmps7
    go_wp2_with fail
    refine (CN.out _).mono ?_
    rintro e w1 ⟨rfl, hb1⟩
    have HB1 := hid (bb HB0.out hb1)
    clear hb1 f0 f1 f2 f3 f4 f5 f6 f7 hw0 CN
    go_wp2_with fail
    go_ret2
    rw [HLF.out HVB.out, HVB.out]
    exact ⟨_, rfl, ⟨[], none, 0, rfl, Nd.Row.start0 _ _, rfl⟩, by rw [hB]; exact hB ▸ HB1.out.alloc HB1.out.size _⟩
  · replace CY := hid (CY.out hu)
    have HVV := hid (HV.out hu)
    clear CN HV HU hu
    go_enter Tryz.func7, Tryz.ntmps7
    go_wp2_with fail
    refine (CY.out _).mono ?_
    rintro e w1 ⟨a1, c1, rfl, ho1, hb1⟩
    have HB1 := hid (bb HB0.out hb1)
    have HX1 := hid (HX.out.below hb1)
    have HO1 := hid ho1.atRow
    clear hb1 ho1 f0 f1 f2 f3 f4 f5 f6 f7 hw0 CY
    obtain ⟨nA, hnA⟩ : ∃ nA, la.length = nA := ⟨_, rfl⟩
    rw [hnA] at CG ⊢
    clear hnA HNA
    have HA := hid ((Below.refl w1.heap.size w1).alloc (Nat.le_refl _) (.cells #[.int .i64 (-1), .string letterS, .slice a1 nA c1, .string ⟨#[]⟩] 44))
    have HF := hid (heap_alloc_new w1 (.cells #[.int .i64 (-1), .string letterS, .slice a1 nA c1, .string ⟨#[]⟩] 44))
    obtain ⟨w3, hw3⟩ : ∃ w3, w1.alloc (.cells #[.int .i64 (-1), .string letterS, .slice a1 nA c1, .string ⟨#[]⟩] 44) = w3 := ⟨_, rfl⟩
    have HW3 := hid hw3
    rw [hw3] at HA HF
    obtain ⟨F, hF⟩ : ∃ F, w1.heap.size = F := ⟨_, rfl⟩
    rw [hF] at HF
    have HB3 := hid (bb HB1.out HA.out)
    have HX3 := hid (HX1.out.below HA.out)
    have HO3 := hid (HO1.out.below HA.out)
    clear hw3 HB1 HX1 HO1 HA
    go_upto_region 4 with fail
    rw [HW3.out]
    clear HW3 hF
    have HBc := hid ((Below.refl w3.heap.size w3).drew)
    have HBD := hid (fun o => ((Below.refl w3.heap.size w3).alloc (Nat.le_refl _) o).drew)
    have HND := hid (show ((w3.alloc (.cells #[.int .i64 (-1), .string letterS, .slice a1 nA c1, .string ⟨#[]⟩] 44)).drew).heap[w3.heap.size]? = some (.cells #[.int .i64 (-1), .string letterS, .slice a1 nA c1, .string ⟨#[]⟩] 44) from (((Below.refl (w3.heap.size + 1) (w3.alloc (.cells #[.int .i64 (-1), .string letterS, .slice a1 nA c1, .string ⟨#[]⟩] 44))).drew).block w3.heap.size (Nat.lt_succ_self _)).trans (heap_alloc_new w3 (.cells #[.int .i64 (-1), .string letterS, .slice a1 nA c1, .string ⟨#[]⟩] 44)))
    have HSX := hid (show ∀ w', Below w3.heap.size w3 w' → (w'.cell? ⟨B, 0, none⟩ = some (.string c.id) ∧ w'.cell? ⟨B, 1, none⟩ = some (.string c.iss) ∧ w'.cell? ⟨B, 2, none⟩ = some (.string c.sub) ∧ w'.cell? ⟨B, 3, none⟩ = some (.int .i64 c.frm) ∧ w'.cell? ⟨B, 4, none⟩ = some (.int .i64 c.til) ∧ w'.cell? ⟨B, 5, none⟩ = some (.string c.whom) ∧ w'.cell? ⟨B, 6, none⟩ = some (.string c.ans) ∧ w'.cell? ⟨B, 7, none⟩ = some (.slice a c.facts.length cap) ∧ w'.cell? ⟨F, 0, none⟩ = some (.int .i64 (-1)) ∧ w'.cell? ⟨F, 1, none⟩ = some (.string letterS) ∧ w'.cell? ⟨F, 2, none⟩ = some (.slice a1 nA c1) ∧ w'.cell? ⟨F, 3, none⟩ = some (.string ⟨#[]⟩)) from fun w' hb => by
      obtain ⟨q0, q1, q2, q3⟩ := (box4 (blk_below HF.out hb)).1
      exact ⟨(HX3.out.below hb).c0, (HX3.out.below hb).c1, (HX3.out.below hb).c2, (HX3.out.below hb).c3, (HX3.out.below hb).c4, (HX3.out.below hb).c5, (HX3.out.below hb).c6, (HX3.out.below hb).c7, q0, q1, q2, q3⟩)
    go_region_held3 (fun w' => w'.cell? ⟨B, 0, none⟩ = some (.string c.id) ∧ w'.cell? ⟨B, 1, none⟩ = some (.string c.iss) ∧ w'.cell? ⟨B, 2, none⟩ = some (.string c.sub) ∧ w'.cell? ⟨B, 3, none⟩ = some (.int .i64 c.frm) ∧ w'.cell? ⟨B, 4, none⟩ = some (.int .i64 c.til) ∧ w'.cell? ⟨B, 5, none⟩ = some (.string c.whom) ∧ w'.cell? ⟨B, 6, none⟩ = some (.string c.ans) ∧ w'.cell? ⟨B, 7, none⟩ = some (.slice a c.facts.length cap) ∧ w'.cell? ⟨F, 0, none⟩ = some (.int .i64 (-1)) ∧ w'.cell? ⟨F, 1, none⟩ = some (.string letterS) ∧ w'.cell? ⟨F, 2, none⟩ = some (.slice a1 nA c1) ∧ w'.cell? ⟨F, 3, none⟩ = some (.string ⟨#[]⟩)) (first | with_reducible exact HSX.out _ HBc.out | with_reducible exact HSX.out _ (HBc.out.alloc HBc.out.size _) | with_reducible exact HSX.out _ ((Below.refl w3.heap.size w3).alloc (Nat.le_refl _) _).drew)
      (first
        | (go_at_call 21; with_reducible refine (CT.out _ (by first | with_reducible exact bb HB3.out HBc.out | with_reducible exact bb HB3.out (HBc.out.alloc HBc.out.size _) | with_reducible exact bb HB3.out (HBD.out _))).mono ?_; rintro e w4 ⟨v4, rfl, hr4⟩; have hb4 := hr4.bel; obtain ⟨a4, c4, hv4, ht4⟩ := hr4.tk; subst hv4; have HT4 := hid ht4; have HBn := hid (show Below w3.heap.size w3 w4 from by first | with_reducible exact bb HBc.out hb4 | with_reducible exact bb (HBc.out.alloc HBc.out.size _) hb4 | with_reducible exact bb (HBD.out _) hb4); (first | (have HNx := hid (blk_below HND.out hb4)) | (have HNx := hid (blk_below (heap_alloc_new _ (.cells #[.int .i64 (-1), .string letterS, .slice a1 nA c1, .string ⟨#[]⟩] 44)) hb4)) | skip); clear HBc; have HBc := HBn; clear hr4 hb4 ht4 HBn)
        | (go_at_call 20; (first | (have HNy := hid HNx.out) | (have HNy := hid (heap_alloc_new w4 (.cells #[.int .i64 (-1), .string letterS, .slice a1 nA c1, .string ⟨#[]⟩] 44)))); with_reducible refine (CG.out _ a1 c1 a4 c4 _ HNy.out (HO3.out.below (by first | with_reducible exact HBc.out | with_reducible exact HBc.out.alloc HBc.out.size _)) (by first | with_reducible exact HT4.out | with_reducible exact HT4.out.below ((Below.refl _ _).alloc (Nat.le_refl _) _))).mono ?_; rintro e w5 ⟨v5, rfl, hr5⟩; have hb5 := hr5.bel; have HR5 := hid (RowOf.later (show Below w.heap.size w _ from by first | with_reducible exact bb HB3.out HBc.out | with_reducible exact bb HB3.out (HBc.out.alloc HBc.out.size _)) hr5); have HBn := hid (show Below w3.heap.size w3 w5 from by first | with_reducible exact bb HBc.out hb5 | with_reducible exact bb (HBc.out.alloc HBc.out.size _) hb5); clear HBc; have HBc := HBn; clear hr5 hb5 HBn)
        | (go_at_call 19; with_reducible refine (CO.out v5 GB _).mono ?_; rintro e w6 ⟨rfl, hw6⟩; obtain rfl := hw6.symm))
    all_goals
      go_wp2_with fail
      go_ret2
      obtain ⟨rfl, hg⟩ := HVV.out
      cases GB with
      | false =>
        rw [HLF.out rfl]
        exact ⟨_, rfl, ⟨[], none, 0, rfl, Nd.Row.start0 _ _, rfl⟩, HR5.out.bel⟩
      | true =>
        rw [← hg rfl]
        exact ⟨_, rfl, HR5.out⟩

end Go.Proofs.YtcjeodgfpnecgaaGreatDoor

namespace Go.Proofs.YtcjeodgfpnecgaaGreatDoor
open Go.RowKit
set_option linter.unusedVariables false
set_option linter.unusedSimpArgs false

/-- The claim's tree is put behind the letter's first node. -/
theorem cPutH (c : Cm) (hc : claimB c = true) (id : ByteArray) (g : Nat) (a' : Option Addr) (c' : Nat) (a4 : Option Addr) (c4 : Nat) (wx : World) (hg : wx.heap[g]? = some (.cells #[.int .i64 (-1), .string letterS, .slice a' (ltrAts id).length c', .string ⟨#[]⟩] 44 (0, 0))) (ha : AtRow wx a' (ltrAts id)) (hz : CmSz 1048576 c) (hi : id.size ≤ 1048576) (h4 : TkRow wx a4 (treeTo c (qTx c.frm) (qTx c.til) 6)) :
    Calls Tryz.prog 34 #[.slice (some ⟨g, 0, none⟩) 1 1, .int .i64 1, .int .i64 0, .slice a4 (treeTo c (qTx c.frm) (qTx c.til) 6).length c4] wx fun e w' => ∃ v, e = .returned v ∧ RowOf wx w' v (putL [headL id] 1 0 (treeTo c (qTx c.frm) (qTx c.til) 6)) := by
  have ht := (claim_tree hc).1
  have hl := ht.2.1
  have hok := claimT_ok hz
  rw [show claimT c (qTx c.frm) (qTx c.til) = treeTo c (qTx c.frm) (qTx c.til) 6 from if_pos hc] at hok
  exact cPutL (some ⟨g, 0, none⟩) a4 1 c4 [headL id] (treeTo c (qTx c.frm) (qTx c.til) 6) 1 0 wx (head_row hg ha) h4 (fun t hx => by rw [List.mem_singleton.1 hx]; exact ⟨Int.le_refl _, show (-1 : Int) < 50 by decide⟩) (tree_kindB ht) (Nat.le_refl 1) (Nat.le_refl 1) (by unfold maxLen; decide) (by show 1 ≤ 50; decide) (by omega) (headL_sz hi) hok.1

theorem let_cell {w w' : World} {b : Nat} (h : w'.heap[b]? = w.heap[b]?) (o : Nat) : w'.cell? ⟨b, o, none⟩ = w.cell? ⟨b, o, none⟩ := by
  unfold World.cell?
  rw [h]

set_option maxRecDepth 16000 in
set_option maxHeartbeats 16000000 in
theorem cLetRowS (c : Cm) (a : Option Addr) (cap : Nat) (id : ByteArray) (w : World) (hR : AtRow w a c.facts) (hz : CmSz 1048576 c) (hi : id.size ≤ 1048576) (hc : claimB c = true) :
    Calls Tryz.prog 16 #[cmV c a cap, .string id] w fun e w' => ∃ v, e = .returned v ∧ RowOf w w' v (putL [headL id] 1 0 (treeTo c (qTx c.frm) (qTx c.til) 6)) := by
  have HX := hid (ClBox.new w c (.slice a c.facts.length cap) 31)
  have HB0 := hid ((Below.refl w.heap.size w).alloc (Nat.le_refl _) (.cells #[.string c.id, .string c.iss, .string c.sub, .int .i64 c.frm, .int .i64 c.til, .string c.whom, .string c.ans, .slice a c.facts.length cap] 31))
  have CT := hid (fun wx (h : Below w.heap.size w wx) => cTreeS c a cap wx (hR.below h) hz (claimB_parts hc).2.2.2 (claimB_parts hc).1 (claimB_parts hc).2.1 (claimB_parts hc).2.2.1)
  have CP := hid (fun (g : Nat) (a' : Option Addr) (c' : Nat) (a4 : Option Addr) (c4 : Nat) wx hg ha h4 => cPutH c hc id g a' c' a4 c4 wx hg ha hz hi h4)
  generalize treeTo c (qTx c.frm) (qTx c.til) 6 = T at *
  unfold cmV at *
  obtain ⟨w0, hw0⟩ : ∃ w0, w.alloc (.cells #[.string c.id, .string c.iss, .string c.sub, .int .i64 c.frm, .int .i64 c.til, .string c.whom, .string c.ans, .slice a c.facts.length cap] 31) = w0 := ⟨_, rfl⟩
  have hs0 : w0.heap.size = w.heap.size + 1 := by rw [← hw0, World.size_alloc]
  have HS0 := hid (show w.heap.size + 1 ≤ w0.heap.size from Nat.le_of_eq hs0.symm)
  rw [hw0] at HX HB0
  obtain ⟨B, hB⟩ : ∃ B, w.heap.size = B := ⟨_, rfl⟩
  have HBE := hid hB
  rw [hB] at HX
  clear hR hz hi hc hs0
  have HA := hid (let_heap2 w0 (.cells #[.string nsLS, .string ⟨#[99, 108, 97, 105, 109]⟩] 58) (.cells #[.int .i64 (-1), .string letterS, .slice (some ⟨w0.heap.size, 0, none⟩) 1 1, .string ⟨#[]⟩] 44))
  have HB3 := hid ((HB0.out.alloc HB0.out.size (.cells #[.string nsLS, .string ⟨#[99, 108, 97, 105, 109]⟩] 58)).alloc (HB0.out.alloc HB0.out.size _).size (.cells #[.int .i64 (-1), .string letterS, .slice (some ⟨w0.heap.size, 0, none⟩) 1 1, .string ⟨#[]⟩] 44))
  have HX3 := hid ((HX.out.below ((Below.refl w0.heap.size w0).alloc (Nat.le_refl _) (.cells #[.string nsLS, .string ⟨#[99, 108, 97, 105, 109]⟩] 58))).below ((Below.refl _ _).alloc (Nat.le_refl _) (.cells #[.int .i64 (-1), .string letterS, .slice (some ⟨w0.heap.size, 0, none⟩) 1 1, .string ⟨#[]⟩] 44)))
  obtain ⟨w3, hw3⟩ : ∃ w3, (w0.alloc (.cells #[.string nsLS, .string ⟨#[99, 108, 97, 105, 109]⟩] 58)).alloc (.cells #[.int .i64 (-1), .string letterS, .slice (some ⟨w0.heap.size, 0, none⟩) 1 1, .string ⟨#[]⟩] 44) = w3 := ⟨_, rfl⟩
  rw [hw3] at HA HB3 HX3
  have HW3 := hid hw3
  clear hw3
  have E := empty_is id
  by_cases h0 : id.size = 0
  · rw [decide_eq_true h0] at E
    have HLA := hid (ltrAts_none h0)
    rw [HLA.out] at CP
    have HAR := hid (show AtRow w3 (some ⟨w0.heap.size, 0, none⟩) [⟨nsLS, claimS⟩] from (cells_one nsLS claimS).atRow HA.out.1)
    clear h0
    obtain ⟨f0, f1, f2, f3, f4, f5, f6, f7⟩ := And.intro HX3.out.c0 (And.intro HX3.out.c1 (And.intro HX3.out.c2 (And.intro HX3.out.c3 (And.intro HX3.out.c4 (And.intro HX3.out.c5 (And.intro HX3.out.c6 HX3.out.c7))))))
    go_enter Tryz.func16, Tryz.ntmps16
    go_upto_region 2 with fail
    rw [show (w0.alloc (.cells #[.string ⟨#[110, 115, 58, 108]⟩, .string ⟨#[99, 108, 97, 105, 109]⟩] 58)).alloc (.cells #[.int .i64 (-1), .string ⟨#[108, 58, 76, 101, 116, 116, 101, 114]⟩, .slice (some ⟨w0.heap.size, 0, none⟩) 1 1, .string ⟨#[]⟩] 44) = w3 from HW3.out]
    go_wp2_with fail
    refine (CT.out _ HB3.out).mono ?_
    rintro e w4 ⟨v4, rfl, hr4⟩
    have hb4 := hr4.bel
    obtain ⟨a4, c4, hv4, ht4⟩ := hr4.tk
    subst hv4
    have HB4 := hid (bb HB3.out hb4)
    have HN4 := hid (blk_below HA.out.2 hb4)
    have HR4 := hid (HAR.out.below hb4)
    have HT4 := hid ht4
    clear hb4 hr4 ht4 f0 f1 f2 f3 f4 f5 f6 f7
    go_wp2_with fail
    refine (CP.out _ _ 1 a4 c4 _ HN4.out HR4.out HT4.out).mono ?_
    rintro e w5 ⟨v5, rfl, hr5⟩
    have HR5 := hid (RowOf.later HB4.out hr5)
    clear hr5
    go_wp2_with fail
    go_ret
    exact ⟨_, rfl, HR5.out⟩
  · rw [decide_eq_false h0] at E
    have HLA := hid (ltrAts_one h0)
    rw [HLA.out] at CP
    clear h0
    obtain ⟨i0, hi, hz0, hz1, hz2⟩ := info_parts infoAtW
    have HI := hid (And.intro hi (And.intro hz0 (And.intro hz1 hz2)))
    clear hi hz0 hz1 hz2
    go_enter Tryz.func16, Tryz.ntmps16
    go_upto_region 2 with fail
    rw [show (w0.alloc (.cells #[.string ⟨#[110, 115, 58, 108]⟩, .string ⟨#[99, 108, 97, 105, 109]⟩] 58)).alloc (.cells #[.int .i64 (-1), .string ⟨#[108, 58, 76, 101, 116, 116, 101, 114]⟩, .slice (some ⟨w0.heap.size, 0, none⟩) 1 1, .string ⟨#[]⟩] 44) = w3 from HW3.out]
    obtain ⟨s2, hs2⟩ : ∃ s2, w0.heap.size = s2 := ⟨_, rfl⟩
    rw [hs2] at HA HS0 ⊢
    obtain ⟨⟨n0, n1, n2, n3⟩, nf⟩ := box4 HA.out.2
    clear hs2 HW3
    have HL3 := hid (show s2 + 1 < w3.heap.size from lt_of_heap HA.out.2)
    have HB4 := hid (HB3.out.alloc HB3.out.size (.cells #[.string idS, .string id] 58))
    have HX4 := hid (HX3.out.below ((Below.refl w3.heap.size w3).alloc (Nat.le_refl _) (.cells #[.string idS, .string id] 58)))
    have HN4 := hid (blk_alloc HA.out.2 (.cells #[.string idS, .string id] 58))
    have HO := hid (show (w3.alloc (.cells #[.string idS, .string id] 58)).ownsRow (w.heap.size + 1) 58 2 (.slice (some ⟨s2, 0, none⟩) 1 1) 1 (atC [⟨nsLS, claimS⟩]) from ⟨rfl, .inr ⟨s2, 1, _, rfl, HS0.out, blk_alloc HA.out.1 _, Nat.le_refl _, by decide, rfl, rfl⟩⟩)
    have HR := hid (show AtRow (w3.alloc (.cells #[.string idS, .string id] 58)) (some ⟨w3.heap.size, 0, none⟩) [⟨idS, id⟩] from (cells_one idS id).atRow (heap_alloc_new w3 _))
    unfold idS at HR HO HB4 HN4 HX4
    go_wp2_with (at_builtin; refine wpList_append_own_at _ rfl _ _ 29 rfl (w.heap.size + 1) 58 i0 _ 2 32 Tryz.underlying29 HI.out.1 HI.out.2.1 HI.out.2.2.1 HI.out.2.2.2 rfl (by decide) (.slice (some ⟨s2, 0, none⟩) 1 1) 1 (atC [⟨nsLS, claimS⟩]) rfl HO.out ⟨w3.heap.size, 0, none⟩ 1 1 _ rfl rfl (atC_row HR.out) (atC_one _) (by decide) (by decide) ?c5 ?_)
    case c5 =>
      have := HB4.out.size
      have := HS0.out
      have := HL3.out
      simp
      omega
    intro v' w5 hown hgrow _ hblk
    obtain ⟨a5, c5, rfl, hoa⟩ := own_ats (l := [⟨nsLS, claimS⟩, ⟨idS, id⟩]) hown rfl
    have HB5 := hid (HB4.out.grown hgrow HB4.out.size (fun g hg => Nat.le_trans (Nat.le_succ _) (HO.out.lt g hg).1))
    have HN5 := hid ((hgrow.block (s2 + 1) (lt_of_heap HN4.out) (fun e => by have e' : s2 + 1 = s2 := Option.some.inj e; omega)).trans HN4.out)
    have HBl4 := hid (HX4.out.lt)
    have HX5 := hid (show ClBox w5 B c (.slice a c.facts.length cap) by
      have hbk : ∀ o, w5.cell? ⟨B, o, none⟩ = (w3.alloc (.cells #[.string ⟨#[73, 100]⟩, .string id] 58)).cell? ⟨B, o, none⟩ := fun o => let_cell (hgrow.block B HX4.out.lt (fun e => by have e' : B = s2 := Option.some.inj e; have := HS0.out; have := HBE.out; omega)) o
      have h := HX4.out
      exact ⟨by have := HB5.out.size; have := HBE.out; have := hgrow.size; have := h.lt; omega, (hbk 0).trans h.c0, (hbk 1).trans h.c1, (hbk 2).trans h.c2, (hbk 3).trans h.c3, (hbk 4).trans h.c4, (hbk 5).trans h.c5, (hbk 6).trans h.c6, (hbk 7).trans h.c7⟩)
    have HOA := hid (show ∀ v, OwnAts (w5.setCell ⟨s2 + 1, 2, none⟩ v) (w.heap.size + 1) a5 [⟨nsLS, claimS⟩, ⟨idS, id⟩] from fun v hl => by
      obtain ⟨g, o, cu, rfl, h2, h3, h4⟩ := hoa hl
      refine ⟨g, o, cu, rfl, by rw [HBE.out]; exact h2, (Below.heap_setCell w5 ⟨s2 + 1, 2, none⟩ v g (fun e => ?_)).trans h3, h4⟩
      have e' : g = s2 + 1 := e
      have hL := HL3.out
      rcases hblk with h | h
      · have : g = s2 := Option.some.inj h
        omega
      · have : g = w3.heap.size + 1 := by simpa using (Option.some.inj h)
        omega)
    have HNE := hid (show ¬ s2 + 1 = B by have := HS0.out; have := HBE.out; omega)
    clear hown hgrow hblk hoa n0 n1 n2 n3 nf HI HO HR HB4 HN4 HX4 HA
    obtain ⟨⟨n0, n1, n2, n3⟩, nf⟩ := box4 HN5.out
    go_upto_region 4 with fail
    have HN6 := hid (show (w5.setCell ⟨s2 + 1, 2, none⟩ (.slice a5 2 c5)).heap[s2 + 1]? = some (.cells #[.int .i64 (-1), .string letterS, .slice a5 2 c5, .string ⟨#[]⟩] 44 (0, 0)) from box_set HN5.out 2 (.slice a5 2 c5))
    have HB6 := hid (HB5.out.setCell (p := ⟨s2 + 1, 2, none⟩) (show w.heap.size ≤ s2 + 1 by have := HS0.out; omega) (.slice a5 2 c5))
    have HO6 := hid (HOA.out (.slice a5 2 c5)).atRow
    have HX6 := hid (show ClBox (w5.setCell ⟨s2 + 1, 2, none⟩ (.slice a5 2 c5)) B c (.slice a c.facts.length cap) by
      have hbk : ∀ o, (w5.setCell ⟨s2 + 1, 2, none⟩ (.slice a5 2 c5)).cell? ⟨B, o, none⟩ = w5.cell? ⟨B, o, none⟩ := fun o => let_cell (Below.heap_setCell w5 ⟨s2 + 1, 2, none⟩ (.slice a5 2 c5) B (fun e => HNE.out e.symm)) o
      have h := HX5.out
      exact ⟨by rw [World.size_setCell]; exact h.lt, (hbk 0).trans h.c0, (hbk 1).trans h.c1, (hbk 2).trans h.c2, (hbk 3).trans h.c3, (hbk 4).trans h.c4, (hbk 5).trans h.c5, (hbk 6).trans h.c6, (hbk 7).trans h.c7⟩)
    obtain ⟨w6, hw6⟩ : ∃ w6, w5.setCell ⟨s2 + 1, 2, none⟩ (.slice a5 2 c5) = w6 := ⟨_, rfl⟩
    rw [hw6] at HN6 HB6 HO6 HX6 ⊢
    clear hw6 n0 n1 n2 n3 nf HN5 HB5 HOA HX5
    obtain ⟨f0, f1, f2, f3, f4, f5, f6, f7⟩ := And.intro HX6.out.c0 (And.intro HX6.out.c1 (And.intro HX6.out.c2 (And.intro HX6.out.c3 (And.intro HX6.out.c4 (And.intro HX6.out.c5 (And.intro HX6.out.c6 HX6.out.c7))))))
    go_wp2_with fail
    refine (CT.out _ HB6.out).mono ?_
    rintro e w7 ⟨v4, rfl, hr4⟩
    have hb4 := hr4.bel
    obtain ⟨a4, c4, hv4, ht4⟩ := hr4.tk
    subst hv4
    have HB7 := hid (bb HB6.out hb4)
    have HN7 := hid (blk_below HN6.out hb4)
    have HR7 := hid (HO6.out.below hb4)
    have HT7 := hid ht4
    clear hb4 hr4 ht4 f0 f1 f2 f3 f4 f5 f6 f7
    go_wp2_with fail
    refine (CP.out _ _ c5 a4 c4 _ HN7.out HR7.out HT7.out).mono ?_
    rintro e w8 ⟨v5, rfl, hr5⟩
    have HR8 := hid (RowOf.later HB7.out hr5)
    clear hr5
    go_wp2_with fail
    go_ret
    exact ⟨_, rfl, HR8.out⟩

theorem ltrB_of (c : Cm) (id : ByteArray) : ltrB c id = (claimB c && ((decide (id.size = 0) || idOk id) && !decide (id = c.id))) := rfl

set_option maxRecDepth 16000 in
set_option maxHeartbeats 16000000 in
theorem cLetterS (c : Cm) (a : Option Addr) (cap : Nat) (id : ByteArray) (w : World) (hR : AtRow w a c.facts) (hz : CmSz 1048576 c) (hi : id.size ≤ 1048576) :
    Calls Tryz.prog 5 #[cmV c a cap, .string id] w (TreeAns w (ltrL c id) (ltrB c id)) := by
  have HX := hid (ClBox.new w c (.slice a c.facts.length cap) 31)
  have HB0 := hid ((Below.refl w.heap.size w).alloc (Nat.le_refl _) (.cells #[.string c.id, .string c.iss, .string c.sub, .int .i64 c.frm, .int .i64 c.til, .string c.whom, .string c.ans, .slice a c.facts.length cap] 31))
  have CO := hid (fun wx (h : Below w.heap.size w wx) => cClaimOkS c a cap wx (hR.below h) hz)
  have CI := hid (fun wx => c_spec_l12Id id wx hi)
  have CR := hid (fun (hK : claimB c = true) wx (h : Below w.heap.size w wx) => cLetRowS c a cap id wx (hR.below h) hz hi hK)
  have HL1 := hid (ltrL_t (c := c) (id := id))
  have HL0 := hid (ltrL_f (c := c) (id := id))
  have HV := hid (ltrB_of c id)
  have E := empty_is id
  have E2 := let_beq id c.id
  generalize ltrL c id = L at *
  generalize ltrB c id = V at *
  generalize putL [headL id] 1 0 (treeTo c (qTx c.frm) (qTx c.til) 6) = T at *
  generalize claimB c = K at *
  generalize idOk id = O at *
  generalize decide (id.size = 0) = P at *
  generalize decide (id = c.id) = Q at *
  unfold cmV at *
  obtain ⟨w0, hw0⟩ : ∃ w0, w.alloc (.cells #[.string c.id, .string c.iss, .string c.sub, .int .i64 c.frm, .int .i64 c.til, .string c.whom, .string c.ans, .slice a c.facts.length cap] 31) = w0 := ⟨_, rfl⟩
  rw [hw0] at HX HB0
  obtain ⟨B, hB⟩ : ∃ B, w.heap.size = B := ⟨_, rfl⟩
  have HBE := hid hB
  rw [hB] at HX
  clear hR hz hi
  obtain ⟨f0, f1, f2, f3, f4, f5, f6, f7⟩ := And.intro HX.out.c0 (And.intro HX.out.c1 (And.intro HX.out.c2 (And.intro HX.out.c3 (And.intro HX.out.c4 (And.intro HX.out.c5 (And.intro HX.out.c6 HX.out.c7))))))
  go_enter Tryz.func5, Tryz.ntmps5
  go_wp2_with fail
  refine (CO.out _ HB0.out).mono ?_
  rintro e w1 ⟨rfl, hb1⟩
  have HB1 := hid (bb HB0.out hb1)
  have HX1 := hid (HX.out.below hb1)
  clear hb1 hw0 f0 f1 f2 f3 f4 f5 f6 f7
  obtain ⟨f0, f1, f2, f3, f4, f5, f6, f7⟩ := And.intro HX1.out.c0 (And.intro HX1.out.c1 (And.intro HX1.out.c2 (And.intro HX1.out.c3 (And.intro HX1.out.c4 (And.intro HX1.out.c5 (And.intro HX1.out.c6 HX1.out.c7))))))
  cases K with
  | false =>
    have HVF := hid (show V = false from HV.out.trans (Bool.false_and _))
    clear CR CI E E2
    go_wp2_with fail
    go_ret2
    obtain rfl := HVF.out
    rw [HL0.out rfl]
    exact ⟨_, rfl, RowOf.start (HB1.out.alloc HB1.out.size _) HB1.out.size (heap_alloc_new _ _)⟩
  | true =>
    have CR1 := hid (CR.out rfl)
    clear CR
    cases P with
    | false =>
      go_wp2_with fail
      refine (CI.out _).mono ?_
      rintro e w2 ⟨rfl, hb2⟩
      have HB2 := hid (bb HB1.out hb2)
      have HX2 := hid (HX1.out.below hb2)
      clear hb2 f0 f1 f2 f3 f4 f5 f6 f7 HX HX1 HB0 HB1
      obtain ⟨f0, f1, f2, f3, f4, f5, f6, f7⟩ := And.intro HX2.out.c0 (And.intro HX2.out.c1 (And.intro HX2.out.c2 (And.intro HX2.out.c3 (And.intro HX2.out.c4 (And.intro HX2.out.c5 (And.intro HX2.out.c6 HX2.out.c7))))))
      cases O with
      | false =>
        have HVF := hid (show V = false from HV.out)
        go_wp2_with fail
        go_ret2
        obtain rfl := HVF.out
        rw [HL0.out rfl]
        exact ⟨_, rfl, RowOf.start (HB2.out.alloc HB2.out.size _) HB2.out.size (heap_alloc_new _ _)⟩
      | true =>
        cases Q with
        | true =>
          have HVF := hid (show V = false from HV.out)
          go_wp2_with fail
          go_ret2
          obtain rfl := HVF.out
          rw [HL0.out rfl]
          exact ⟨_, rfl, RowOf.start (HB2.out.alloc HB2.out.size _) HB2.out.size (heap_alloc_new _ _)⟩
        | false =>
          have HVF := hid (show V = true from HV.out)
          go_wp2_with fail
          refine (CR1.out _ HB2.out).mono ?_
          rintro e w3 ⟨v3, rfl, hr3⟩
          have HR3 := hid (RowOf.later HB2.out hr3)
          clear hr3
          go_wp2_with fail
          go_ret2
          obtain rfl := HVF.out
          rw [HL1.out rfl]
          exact ⟨_, rfl, HR3.out⟩
    | true =>
      clear CI
      cases Q with
      | true =>
        have HVF := hid (show V = false from HV.out.trans (by cases O <;> rfl))
        go_wp2_with fail
        go_ret2
        obtain rfl := HVF.out
        rw [HL0.out rfl]
        exact ⟨_, rfl, RowOf.start (HB1.out.alloc HB1.out.size _) HB1.out.size (heap_alloc_new _ _)⟩
      | false =>
        have HVF := hid (show V = true from HV.out.trans (by cases O <;> rfl))
        go_wp2_with fail
        refine (CR1.out _ HB1.out).mono ?_
        rintro e w3 ⟨v3, rfl, hr3⟩
        have HR3 := hid (RowOf.later HB1.out hr3)
        clear hr3
        go_wp2_with fail
        go_ret2
        obtain rfl := HVF.out
        rw [HL1.out rfl]
        exact ⟨_, rfl, HR3.out⟩

end Go.Proofs.YtcjeodgfpnecgaaGreatDoor
