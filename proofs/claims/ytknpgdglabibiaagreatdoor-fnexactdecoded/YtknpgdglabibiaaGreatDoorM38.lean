/- Contract of the program's ClaimOk. Contract of the program's Decoded. A claim in memory of its own that is marked, and found so: contracts of the laws' markClaim and heldClaim. -/
import Derived.Test.YtknpgdglabibiaaGreatDoorM37
import Derived.Test.YtknpgdglabibiaaGreatDoorM35
import Derived.Test.YtknpgdglabibiaaGreatDoorM36
import Derived.Test.YtknpgdglabibiaaGreatDoorM28
import Derived.Test.YtknpgdglabibiaaGreatDoorM3
namespace Go.Proofs.YtknpgdglabibiaaGreatDoor
open Go.RowKit
set_option linter.unusedVariables false
set_option linter.unusedSimpArgs false

set_option maxRecDepth 8000 in
set_option maxHeartbeats 8000000 in
theorem cClaimOkI (c : Cm) (a : Option Addr) (cap : Nat) (w : World) (hR : AtRow w a c.facts) (hz : CmSz 1048576 c) :
    Calls Tryz.prog 25 #[cmV c a cap] w fun e w' => e = .returned (.bool (claimB c)) ∧ Below w.heap.size w w' := by
  obtain ⟨z1, z2, z3, z4, z5, z6, z7⟩ := hz
  have C1 := hid (fun wx => cIdOk c.id wx z1)
  have C2 := hid (fun wx => cWordOk c.iss wx z2)
  have C3 := hid (fun wx => cWordOk c.sub wx z3)
  have C4 := hid (fun wx => cWordOk c.whom wx z4)
  have C5 := hid (fun wx => cIdOk c.ans wx z5)
  have C6 := hid (fun wx => cTimeI c.frm wx)
  have C7 := hid (fun wx => cTimeI c.til wx)
  have C8 := hid (fun wx (h : Below w.heap.size w wx) => cFactsOk a cap c.facts wx (hR.below h) z6 z7)
  have E := empty_is c.ans
  have HX := hid (ClBox.new w c (.slice a c.facts.length cap) 26)
  have HB0 := hid ((Below.refl w.heap.size w).alloc (Nat.le_refl _) (.cells #[.string c.id, .string c.iss, .string c.sub, .int .i64 c.frm, .int .i64 c.til, .string c.whom, .string c.ans, .slice a c.facts.length cap] 26))
  unfold cmV claimB
  change Hid (∀ wx, Calls Tryz.prog 67 #[.int .i64 c.frm] wx fun e w' => e = .returned (.bool (timeB c.frm)) ∧ w' = wx) at C6
  change Hid (∀ wx, Calls Tryz.prog 67 #[.int .i64 c.til] wx fun e w' => e = .returned (.bool (timeB c.til)) ∧ w' = wx) at C7
  obtain ⟨w0, hw0⟩ : ∃ w0, w.alloc (.cells #[.string c.id, .string c.iss, .string c.sub, .int .i64 c.frm, .int .i64 c.til, .string c.whom, .string c.ans, .slice a c.facts.length cap] 26) = w0 := ⟨_, rfl⟩
  rw [hw0] at HX HB0
  clear hR z1 z2 z3 z4 z5 z7
  obtain ⟨B, hB⟩ : ∃ B, w.heap.size = B := ⟨_, rfl⟩
  rw [hB] at HX
  obtain ⟨f0, f1, f2, f3, f4, f5, f6, f7⟩ := And.intro HX.out.c0 (And.intro HX.out.c1 (And.intro HX.out.c2 (And.intro HX.out.c3 (And.intro HX.out.c4 (And.intro HX.out.c5 (And.intro HX.out.c6 HX.out.c7))))))
  generalize idOk c.id = b1 at *
  generalize wordB c.iss = b2 at *
  generalize wordB c.sub = b3 at *
  generalize wordB c.whom = b4 at *
  generalize idOk c.ans = b5 at *
  generalize decide (c.ans.size = 0) = b0 at *
  generalize timeB c.frm = b6 at *
  generalize timeB c.til = b7 at *
  generalize factsB c.facts = b8 at *
  generalize c.facts.length = n at *
  go_enter Tryz.func25, Tryz.ntmps25
  go_wp2_with fail
  refine (C1.out _).mono ?_
  rintro e w1 ⟨rfl, rfl⟩
  cases b1 with
  | false =>
    go_wp2_with fail
    go_ret
    exact ⟨by simp, hB ▸ HB0.out⟩
  | true =>
  go_wp2_with fail
  refine (C2.out _).mono ?_
  rintro e w1 ⟨rfl, rfl⟩
  cases b2 with
  | false =>
    go_wp2_with fail
    go_ret
    exact ⟨by simp, hB ▸ HB0.out⟩
  | true =>
  go_wp2_with fail
  refine (C3.out _).mono ?_
  rintro e w1 ⟨rfl, rfl⟩
  cases b3 with
  | false =>
    go_wp2_with fail
    go_ret
    exact ⟨by simp, hB ▸ HB0.out⟩
  | true =>
  go_wp2_with fail
  refine (C4.out _).mono ?_
  rintro e w1 ⟨rfl, rfl⟩
  cases b4 with
  | false =>
    go_wp2_with fail
    go_ret
    exact ⟨by simp, hB ▸ HB0.out⟩
  | true =>
  go_wp2_with fail
  refine (C6.out _).mono ?_
  rintro e w1 ⟨rfl, rfl⟩
  cases b6 with
  | false =>
    go_wp2_with fail
    go_ret
    exact ⟨by simp, hB ▸ HB0.out⟩
  | true =>
  go_wp2_with fail
  refine (C7.out _).mono ?_
  rintro e w1 ⟨rfl, rfl⟩
  cases b7 with
  | false =>
    go_wp2_with fail
    go_ret
    exact ⟨by simp, hB ▸ HB0.out⟩
  | true =>
  cases b0 with
  | true =>
    go_wp2_with fail
    refine (C8.out _ HB0.out).mono ?_
    rintro e w2 ⟨rfl, hb2⟩
    have HB2 := hid (bb HB0.out hb2)
    clear hb2 hw0 f0 f1 f2 f3 f4 f5 f6 f7
    go_wp2_with fail
    go_ret
    exact ⟨by simp, hB ▸ HB2.out⟩
  | false =>
    go_wp2_with fail
    refine (C5.out _).mono ?_
    rintro e w1 ⟨rfl, rfl⟩
    cases b5 with
    | false =>
      go_wp2_with fail
      go_ret
      exact ⟨by simp, hB ▸ HB0.out⟩
    | true =>
    go_wp2_with fail
    refine (C8.out _ HB0.out).mono ?_
    rintro e w2 ⟨rfl, hb2⟩
    have HB2 := hid (bb HB0.out hb2)
    clear hb2 hw0 f0 f1 f2 f3 f4 f5 f6 f7
    go_wp2_with fail
    go_ret
    exact ⟨by simp, hB ▸ HB2.out⟩

end Go.Proofs.YtknpgdglabibiaaGreatDoor

namespace Go.Proofs.YtknpgdglabibiaaGreatDoor
open Go.RowKit
set_option linter.unusedVariables false
set_option linter.unusedSimpArgs false

theorem localN_small (q : Nat) : (localN q).size ≤ 1048576 := by
  unfold localN
  split
  all_goals decide

set_option maxRecDepth 8000 in
set_option maxHeartbeats 16000000 in
theorem cDecodedI (a : Option Addr) (cap : Nat) (ts : List Tk) (x : Int) (w : World) (hR : TkRow w a ts) (hn : ts.length ≤ 1048576) (hz : TksSz 1048576 ts) (hL : Laid w) :
    Calls Tryz.prog 7 #[.slice a ts.length cap, .int .i64 x] w (DecAns w (qdV ts x) (qdI ts x)) := by
  have CN := hid (fun wx (h : Below w.heap.size w wx) => cNamesOkI a cap ts wx (hR.below h) hn hz)
  have CI := hid (fun wx (h : Below w.heap.size w wx) => cIdsOkI a cap ts wx (hR.below h) hn hz)
  have CK := hid (fun wx (h : Below w.heap.size w wx) => cKnownI a cap ts x (⟨#[67, 108, 97, 105, 109]⟩ : ByteArray) claimS wx (hR.below h) hn hz (by decide) (by decide))
  have HB0 := hid ((Below.refl w.heap.size w).alloc (Nat.le_refl _) (.cells #[.string ⟨#[]⟩, .string ⟨#[]⟩, .string ⟨#[]⟩, .int .i64 0, .int .i64 0, .string ⟨#[]⟩, .string ⟨#[]⟩, .slice none 0 0] 26))
  have M4 := hid (heap_alloc_new w (.cells #[.string ⟨#[]⟩, .string ⟨#[]⟩, .string ⟨#[]⟩, .int .i64 0, .int .i64 0, .string ⟨#[]⟩, .string ⟨#[]⟩, .slice none 0 0] 26))
  have HNX := hid (@qdI_no ts x)
  have HR := hid hR
  have HZ := hid hz
  cases h1 : namesB ts with
  | false =>
    have HNO := hid (HNX.out (by rw [h1]; exact fun h => by cases h.1))
    rw [h1] at CN
    clear h1 hR hz
    generalize ts.length = n at *
    go_enter Tryz.func7, Tryz.ntmps7
    go_wp2_with fail
    refine (CN.out _ HB0.out).mono ?_
    rintro e w1 ⟨rfl, hb1⟩
    have BB := hid (bb HB0.out hb1)
    have MM := hid (blk_below M4.out hb1)
    clear hb1
    obtain ⟨⟨y0, y1, y2, y3, y4, y5, y6, y7⟩, yf0, yf1, yf2, yf3, yf4, yf5, yf6, yf7⟩ := box8 MM.out
    go_wp2_with fail
    refine bodyPost_ret (v := .tuple #[.agg #[.string ⟨#[]⟩, .string ⟨#[]⟩, .string ⟨#[]⟩, .int .i64 0, .int .i64 0, .string ⟨#[]⟩, .string ⟨#[]⟩, .slice none 0 0], .bool false]) (by simp [results, Tryz.results7, go_sem, y0, y1, y2, y3, y4, y5, y6, y7]) rfl ⟨none, 0, ?_, ?_, ?_⟩
    · rw [HNO.out, qdV_no HNO.out]
      rfl
    · rw [qdV_no HNO.out]
      exact fun hl => absurd hl (Nat.lt_irrefl 0)
    · iterate 8 refine Below.setCell ?_ (show w.heap.size ≤ w.heap.size from Nat.le_refl _) _
      exact BB.out
  | true =>
  have HN1 := hid h1
  rw [h1] at CN
  cases h2 : idsB ts with
  | false =>
    have HNO := hid (HNX.out (by rw [h2]; exact fun h => by cases h.2.1))
    rw [h2] at CI
    clear h1 h2 hR hz
    generalize ts.length = n at *
    go_enter Tryz.func7, Tryz.ntmps7
    go_wp2_with fail
    refine (CN.out _ HB0.out).mono ?_
    rintro e w1 ⟨rfl, hb1⟩
    have HB1 := hid (bb HB0.out hb1)
    have M1 := hid (blk_below M4.out hb1)
    clear hb1
    go_wp2_with fail
    refine (CI.out _ HB1.out).mono ?_
    rintro e w2 ⟨rfl, hb2⟩
    have BB := hid (bb HB1.out hb2)
    have MM := hid (blk_below M1.out hb2)
    clear hb2
    obtain ⟨⟨y0, y1, y2, y3, y4, y5, y6, y7⟩, yf0, yf1, yf2, yf3, yf4, yf5, yf6, yf7⟩ := box8 MM.out
    go_wp2_with fail
    refine bodyPost_ret (v := .tuple #[.agg #[.string ⟨#[]⟩, .string ⟨#[]⟩, .string ⟨#[]⟩, .int .i64 0, .int .i64 0, .string ⟨#[]⟩, .string ⟨#[]⟩, .slice none 0 0], .bool false]) (by simp [results, Tryz.results7, go_sem, y0, y1, y2, y3, y4, y5, y6, y7]) rfl ⟨none, 0, ?_, ?_, ?_⟩
    · rw [HNO.out, qdV_no HNO.out]
      rfl
    · rw [qdV_no HNO.out]
      exact fun hl => absurd hl (Nat.lt_irrefl 0)
    · iterate 8 refine Below.setCell ?_ (show w.heap.size ≤ w.heap.size from Nat.le_refl _) _
      exact BB.out
  | true =>
  have HI1 := hid h2
  rw [h2] at CI
  cases h3 : knownI ts x (⟨#[67, 108, 97, 105, 109]⟩ : ByteArray) claimS with
  | false =>
    have HNO := hid (qd_known h1 h2 h3)
    rw [h3] at CK
    clear h1 h2 h3 hR hz
    unfold claimS at CK
    generalize ts.length = n at *
    go_enter Tryz.func7, Tryz.ntmps7
    go_wp2_with fail
    refine (CN.out _ HB0.out).mono ?_
    rintro e w1 ⟨rfl, hb1⟩
    have HB1 := hid (bb HB0.out hb1)
    have M1 := hid (blk_below M4.out hb1)
    clear hb1
    go_wp2_with fail
    refine (CI.out _ HB1.out).mono ?_
    rintro e w2 ⟨rfl, hb2⟩
    have HB2 := hid (bb HB1.out hb2)
    have M2 := hid (blk_below M1.out hb2)
    clear hb2
    go_wp2_with fail
    refine (CK.out _ HB2.out).mono ?_
    rintro e w3 ⟨rfl, hb3⟩
    have BB := hid (bb HB2.out hb3)
    have MM := hid (blk_below M2.out hb3)
    clear hb3
    obtain ⟨⟨y0, y1, y2, y3, y4, y5, y6, y7⟩, yf0, yf1, yf2, yf3, yf4, yf5, yf6, yf7⟩ := box8 MM.out
    go_wp2_with fail
    refine bodyPost_ret (v := .tuple #[.agg #[.string ⟨#[]⟩, .string ⟨#[]⟩, .string ⟨#[]⟩, .int .i64 0, .int .i64 0, .string ⟨#[]⟩, .string ⟨#[]⟩, .slice none 0 0], .bool false]) (by simp [results, Tryz.results7, go_sem, y0, y1, y2, y3, y4, y5, y6, y7]) rfl ⟨none, 0, ?_, ?_, ?_⟩
    · rw [HNO.out, qdV_no HNO.out]
      rfl
    · rw [qdV_no HNO.out]
      exact fun hl => absurd hl (Nat.lt_irrefl 0)
    · iterate 8 refine Below.setCell ?_ (show w.heap.size ≤ w.heap.size from Nat.le_refl _) _
      exact BB.out
  | true =>
  have hel : elemB ts x = true := by
    have h := h3
    unfold knownI at h
    rw [Bool.and_eq_true] at h
    exact h.1
  obtain ⟨hT, k, rfl, hk⟩ := elemB_t hel
  have hTB := (idsB_t h2).2
  have HKN := hid (known_kid hTB hk (⟨#[67, 108, 97, 105, 109]⟩ : ByteArray) ▸ h3)
  obtain ⟨e1, e2⟩ := qdI_yes h1 h2 hk
  rw [h3] at CK
  unfold claimS at CK
  have CD := hid (fun wx (h : Below w.heap.size w wx) => cIdOfI a cap ts (k : Int) wx (hR.below h) hn hz)
  rw [idI_is h2 hk] at CD
  have CKK := hid cKidKinds
  have CS := hid (fun (q : Nat) (wx : World) (h : Below w.heap.size w wx) => cSayingsIn a cap ts k (localN q) w wx hR h hTB hk hn hz (localN_small q))
  have HLD := hid hL
  have HSZ := hid (fun (h : ∀ q, q < 6 → decX ts k q = true) => decC_sz hT hz h)
  have HSS := hid (fun (q : Nat) => say_sz (ts := ts) hz (k := k) (loc := localN q))
  have HFA := hid (decC_facts ts k)
  have HSU := hid (decC_succ ts k)
  have HSL := hid (fun (q : Nat) => show (sayL ts (kidsK ts k (localN q))).length ≤ 900 by rw [sayL_len]; have := kidsK_len ts k (localN q); have := hT.2.1; omega)
  have HNOT := hid (@qdB_not ts k)
  have HIS := hid (fun (h : ∀ q, q < 6 → decX ts k q = true) (hc : claimB (decC ts k 6) = true) => qdB_is HKN.out h hc)
  rw [e1, e2]
  have HDX := hid (show ∀ q, decX ts k q = allB q (leN q) (moN q) (sayL ts (kidsK ts k (localN q))) from fun q => rfl)
  have HC0 := hid (decC_zero ts k)
  generalize (valF (atN ts k) idS).getD ByteArray.empty = idv at *
  obtain ⟨DC, hDC⟩ : ∃ DC : Nat → Cm, decC ts k = DC := ⟨_, rfl⟩
  obtain ⟨DX, hDX⟩ : ∃ DX : Nat → Bool, decX ts k = DX := ⟨_, rfl⟩
  obtain ⟨SL, hSL⟩ : ∃ SL : Nat → List Say, (fun q => sayL ts (kidsK ts k (localN q))) = SL := ⟨_, rfl⟩
  have hSL' : ∀ q, sayL ts (kidsK ts k (localN q)) = SL q := fun q => congrFun hSL q
  simp only [hSL'] at CS HSS HSU HSL HDX
  simp only [hDC] at HSZ HFA HSU HNOT HIS HC0
  simp only [hDX] at HSZ HNOT HIS HDX
  generalize qdA ts k = QA at *
  generalize qdB ts k = QB at *
  generalize ts.length = n at *
  clear h1 h2 h3 hR hz hel hT hTB e1 e2 hL hSL hSL' hDC hDX HKN HR HZ HNX HN1 HI1 hk
  go_enter Tryz.func7, Tryz.ntmps7
  go_wp2_with fail
  refine (CN.out _ HB0.out).mono ?_
  rintro e w1 ⟨rfl, hb1⟩
  have HB1 := hid (bb HB0.out hb1)
  have M1 := hid (blk_below M4.out hb1)
  clear hb1
  go_wp2_with fail
  refine (CI.out _ HB1.out).mono ?_
  rintro e w2 ⟨rfl, hb2⟩
  have HB2 := hid (bb HB1.out hb2)
  have M2 := hid (blk_below M1.out hb2)
  clear hb2
  go_wp2_with fail
  refine (CK.out _ HB2.out).mono ?_
  rintro e w3 ⟨rfl, hb3⟩
  have HB3 := hid (bb HB2.out hb3)
  have M3 := hid (blk_below M2.out hb3)
  clear hb3
  go_wp2_with fail
  refine (CD.out _ HB3.out).mono ?_
  rintro e w4 ⟨rfl, hb4⟩
  have HB4 := hid (bb HB3.out hb4)
  have M44 := hid (blk_below M3.out hb4)
  clear hb4 M3 M2 M1 M4 HB0 HB1 HB2 HB3 CN CI CK CD
  have HBa := hid ((Below.refl w4.heap.size w4).alloc (Nat.le_refl _) (.cells #[.string idv, .string ⟨#[]⟩, .string ⟨#[]⟩, .int .i64 0, .int .i64 0, .string ⟨#[]⟩, .string ⟨#[]⟩, .slice none 0 0] 26))
  have MC := hid (heap_alloc_new w4 (.cells #[.string idv, .string ⟨#[]⟩, .string ⟨#[]⟩, .int .i64 0, .int .i64 0, .string ⟨#[]⟩, .string ⟨#[]⟩, .slice none 0 0] 26))
  obtain ⟨wa, hwa⟩ : ∃ wa, w4.alloc (.cells #[.string idv, .string ⟨#[]⟩, .string ⟨#[]⟩, .int .i64 0, .int .i64 0, .string ⟨#[]⟩, .string ⟨#[]⟩, .slice none 0 0] 26) = wa := ⟨_, rfl⟩
  rw [hwa] at HBa MC
  have HWA := hid hwa
  clear hwa
  have HBW := hid (bb HB4.out HBa.out)
  have MB4 := hid (blk_below M44.out HBa.out)
  have HBC := hid (show w.heap.size ≤ w4.heap.size from HB4.out.size)
  have HN4 := hid (show ¬ w.heap.size = w4.heap.size from fun e => by have := lt_of_heap M44.out; omega)
  have HBCL := hid (show w4.heap.size < wa.heap.size from lt_of_heap MC.out)
  go_wp2_with fail
  simp only [HWA.out]
  refine (CKK.out _).mono ?_
  rintro e w5 ⟨g, b0, b1, b3, b4, rfl, hks, hb5⟩
  have HKD := hid hks
  have HBK := hid (bb HBW.out hb5)
  have MK := hid (blk_below MB4.out hb5)
  have MC5 := hid (blk_below MC.out hb5)
  have HL5 := hid (Nat.lt_of_lt_of_le HBCL.out hb5.size)
  have HF0 := hid (show FH w5.heap.size w5 w4.heap.size (DC 0) (.slice none 0 0) (DC 0).facts from by
    rw [HFA.out 0 (by omega)]
    refine ⟨?_, World.ownsRow_nil _ _ _ _, fun e => by cases e⟩
    rw [HC0.out]
    exact MC5.out)
  clear hks hb5 CKK MC5 HWA HBa MC HBW MB4 M44 HB4
  go_wp2_with fail
  go_loopw [30] (fun y wr => ∃ (q : Nat) (v : Value), y = .int .i64 (q : Int) ∧ q ≤ 6 ∧ Hid (FH w5.heap.size wr w4.heap.size (DC q) v (DC q).facts) ∧ Hid (KeepB (fun j => j = w4.heap.size) w5 wr) ∧ Hid (∀ i, i < q → DX i = true)) (fun y _ => 6 - (intOf y).toNat)
  case atStart => exact ⟨0, _, rfl, Nat.zero_le _, HF0.out, KeepB.refl _ _, fun i hi => absurd hi (Nat.not_lt_zero _)⟩
  case round =>
    clear HF0
    obtain ⟨q, v, rfl, hq6, HF, HK, HX⟩ := hrel
    by_cases hlt : q < 6
    · have hqi : (q : Int) < 6 := by omega
      have HKr := hid (HKD.out.keep HBCL.out HK.out)
      obtain ⟨F, C, F2, C2, ⟨k0, k1, k2, k3, k4⟩, hHd⟩ := heard_at HKD.out HKr.out HBCL.out HLD.out q hlt
      have HHD := hid hHd
      have HBa := hid ((Below.refl wr.heap.size wr).alloc (Nat.le_refl _) (.cells #[.string (localN q), .int .i64 (leN q), .int .i64 (moN q), .func (.func F) #[] C, .func (.func F2) #[] C2] 51))
      have Ha1 := hid (heap_alloc_new wr (.cells #[.string (localN q), .int .i64 (leN q), .int .i64 (moN q), .func (.func F) #[] C, .func (.func F2) #[] C2] 51))
      obtain ⟨wb, hwb⟩ : ∃ wb, wr.alloc (.cells #[.string (localN q), .int .i64 (leN q), .int .i64 (moN q), .func (.func F) #[] C, .func (.func F2) #[] C2] 51) = wb := ⟨_, rfl⟩
      rw [hwb] at HBa Ha1
      obtain ⟨⟨q0, q1, q2, q3, q4⟩, _⟩ := box5 Ha1.out
      have HBr := hid (show Below w.heap.size w wr from HBK.out.trans (HK.out.below HBK.out.size (fun j e => by have := HBC.out; omega)))
      have HBb := hid (bb HBr.out HBa.out)
      have HKb := hid (HK.out.trans (KeepB.of_below _ HBa.out))
      have HFb := hid (HF.out.below HBa.out)
      have HVL := hid (show ∀ j, v.ownBlock = some j → j < wb.heap.size from fun j e => (HFb.out.own.lt j e).2)
      have HL6 := hid (show w4.heap.size < wb.heap.size from lt_of_heap HFb.out.hc)
      have CS1 := hid (fun (wx : World) (h : Below wb.heap.size wb wx) => (show Calls Tryz.prog 24 #[.slice a n cap, .int .i64 (k : Int), .string (localN q)] wx fun r w' => ∃ a2 c2, r = .returned (.slice a2 (SL q).length c2) ∧ SayQ w' w.heap.size w4.heap.size v a2 (SL q) ∧ Below wb.heap.size wb w' ∧ w'.cell? ⟨wr.heap.size, 0, none⟩ = some (.string (localN q)) ∧ w'.cell? ⟨wr.heap.size, 1, none⟩ = some (.int .i64 (leN q)) ∧ w'.cell? ⟨wr.heap.size, 2, none⟩ = some (.int .i64 (moN q)) ∧ w'.cell? ⟨wr.heap.size, 3, none⟩ = some (.func (.func F) #[] C) ∧ w'.cell? ⟨wr.heap.size, 4, none⟩ = some (.func (.func F2) #[] C2) by
        refine (CS.out q wx (bb HBb.out h)).mono ?_
        rintro r w7 ⟨a2, c2, rfl, hs, hb7⟩
        have h7 := h.trans (hb7.mono h.size)
        obtain ⟨⟨t0, t1, t2, t3, t4⟩, _⟩ := box5 (blk_below Ha1.out h7)
        exact ⟨a2, c2, rfl, hs.q (Nat.lt_of_lt_of_le HL6.out h.size) (fun j e => Nat.lt_of_lt_of_le (HVL.out j e) h.size), h7, t0, t1, t2, t3, t4⟩))
      have CA := hid (fun (wx : World) (a2 : Option Addr) (c2 : Nat) (h : Below wb.heap.size wb wx) (hs : SayQ wx w.heap.size w4.heap.size v a2 (SL q)) => (show Calls Tryz.prog 23 #[.agg #[.string (localN q), .int .i64 (leN q), .int .i64 (moN q), .func (.func F) #[] C, .func (.func F2) #[] C2], .pointer (some ⟨w4.heap.size, 0, none⟩), .slice a2 (SL q).length c2] wx (AllPost q w4.heap.size w5 (DC q) (SL q) (DX q)) by
        rw [HDX.out q]
        exact cAllHeard q w4.heap.size F2 C2 w w5 HHD.out (localN q) (leN q) (moN q) F C (DC q) v a2 c2 (SL q) wx (HKb.out.trans (KeepB.of_below _ h)) HBK.out HBC.out (HFb.out.below h) hs (HSL.out q) (by rw [HFA.out q (by omega)]; exact Nat.zero_le _) (HSS.out q)))
      clear CS HBa Ha1 HBr HBb HKb HFb HVL HL6 hHd HHD HKr HF
      go_wp2_with fail
      have HSx := hid ((Below.refl wb.heap.size wb).drew)
      go_region_law (first
        | (go_simp; go_at_call 24; refine (CS1.out _ HSx.out).mono ?_; rintro r W2 ⟨a2, c2, rfl, hs2, hb2, z0, z1, z2, z3, z4⟩; have HS2 := hid hs2; replace HSx := hid hb2; clear hs2 hb2)
        | (go_simp; go_at_call 23; refine (CA.out _ a2 c2 HSx.out HS2.out).mono ?_; rintro r W3 ⟨rfl, hk3, hf3⟩; have HK3 := hid hk3; have HF3 := hid hf3; clear hk3 hf3))
      all_goals
        clear CS1 CA HSx HS2 z0 z1 z2 z3 z4 q0 q1 q2 q3 q4 hwb k0 k1 k2 k3 k4
        cases hX : DX q with
        | false =>
          obtain ⟨rfl, rfl⟩ := HNOT.out (fun h => by have h1 := h.1 q hlt; rw [hX] at h1; cases h1)
          have MM := hid (keep_blk HK3.out MK.out HN4.out)
          have BB := hid (show Below w.heap.size w W3 from HBK.out.trans (HK3.out.below HBK.out.size (fun j e => by have := HBC.out; omega)))
          rw [hX] at HF3
          clear HF3 HK3
          obtain ⟨⟨y0, y1, y2, y3, y4, y5, y6, y7⟩, yf0, yf1, yf2, yf3, yf4, yf5, yf6, yf7⟩ := box8 MM.out
          go_wp2_with fail
          refine bodyPost_ret (v := .tuple #[.agg #[.string ⟨#[]⟩, .string ⟨#[]⟩, .string ⟨#[]⟩, .int .i64 0, .int .i64 0, .string ⟨#[]⟩, .string ⟨#[]⟩, .slice none 0 0], .bool false]) (by simp [results, Tryz.results7, go_sem, y0, y1, y2, y3, y4, y5, y6, y7]) rfl ⟨none, 0, rfl, fun hl => absurd hl (Nat.lt_irrefl 0), ?_⟩
          iterate 8 refine Below.setCell ?_ (show w.heap.size ≤ w.heap.size from Nat.le_refl _) _
          exact BB.out
        | true =>
          obtain ⟨v3, hf3⟩ := HF3.out hX
          have HF4 := hid (show FH w5.heap.size W3 w4.heap.size (DC (q + 1)) v3 (DC (q + 1)).facts from by rw [HSU.out q]; exact hf3)
          have HX4 := hid (show ∀ i, i < q + 1 → DX i = true from fun i hi => by
            rcases Nat.lt_or_eq_of_le (Nat.le_of_lt_succ hi) with h | h
            · exact HX.out i h
            · rw [h]; exact hX)
          clear hf3 HF3
          go_wp2_with fail
          go_roundw
          case rel => exact ⟨q + 1, v3, by go_num, by omega, HF4.out, HK3.out, HX4.out⟩
          case measure => (simp [intOf]; try omega)
    · have hqe : q = 6 := by omega
      subst hqe
      obtain ⟨av, cv, hv, hoa⟩ := qa_own HF.out.own
      have HOA := hid hoa
      have CO := hid (cClaimOkI (DC 6) av cv wr hoa.rd (HSZ.out HX.out))
      have MF := hid HF.out.hc
      have HNV := hid HF.out.nc
      have HBL := hid (HF.out.own.lt)
      have HBr := hid (show Below w.heap.size w wr from HBK.out.trans (HK.out.below HBK.out.size (fun j e => by have := HBC.out; omega)))
      have MR := hid (keep_blk HK.out MK.out HN4.out)
      subst hv
      obtain ⟨⟨p0, p1, p2, p3, p4, p5, p6, p7⟩, _⟩ := box8 MF.out
      clear hoa HF
      unfold cmV at CO
      generalize hCB : claimB (DC 6) = CB at *
      generalize DC 6 = D at *
      go_wp2_with fail
      refine CO.out.mono ?_
      rintro e w7 ⟨rfl, hb7⟩
      have BB := hid (bb HBr.out hb7)
      have MM := hid (blk_below MR.out hb7)
      have MD := hid (blk_below MF.out hb7)
      have HO7 := hid (HOA.out.below hb7)
      clear hb7 CO p0 p1 p2 p3 p4 p5 p6 p7 HOA MF MR HBr
      cases CB with
      | false =>
        obtain ⟨rfl, rfl⟩ := HNOT.out (fun h => by cases h.2)
        obtain ⟨⟨y0, y1, y2, y3, y4, y5, y6, y7⟩, yf0, yf1, yf2, yf3, yf4, yf5, yf6, yf7⟩ := box8 MM.out
        go_wp2_with fail
        refine bodyPost_ret (v := .tuple #[.agg #[.string ⟨#[]⟩, .string ⟨#[]⟩, .string ⟨#[]⟩, .int .i64 0, .int .i64 0, .string ⟨#[]⟩, .string ⟨#[]⟩, .slice none 0 0], .bool false]) (by simp [results, Tryz.results7, go_sem, y0, y1, y2, y3, y4, y5, y6, y7]) rfl ⟨none, 0, rfl, fun hl => absurd hl (Nat.lt_irrefl 0), ?_⟩
        iterate 8 refine Below.setCell ?_ (show w.heap.size ≤ w.heap.size from Nat.le_refl _) _
        exact BB.out
      | true =>
        obtain ⟨rfl, rfl⟩ := HIS.out HX.out rfl
        obtain ⟨⟨y0, y1, y2, y3, y4, y5, y6, y7⟩, yf0, yf1, yf2, yf3, yf4, yf5, yf6, yf7⟩ := box8 MM.out
        obtain ⟨⟨x0, x1, x2, x3, x4, x5, x6, x7⟩, _⟩ := box8 MD.out
        go_wp2_with fail
        refine bodyPost_ret (v := .tuple #[cmV QA av cv, .bool true]) (by simp [results, Tryz.results7, go_sem, cmV, y0, y1, y2, y3, y4, y5, y6, y7]) rfl ⟨av, cv, rfl, ?_, ?_⟩
        · have hset : ∀ (W : World) (i : Nat) (u : Value), OwnAts W w5.heap.size av QA.facts → OwnAts (W.setCell ⟨w.heap.size, i, none⟩ u) w5.heap.size av QA.facts := fun W i u h => OwnAts.set4 h (fun g o e hl eg => by
            obtain ⟨g', o', cu', k1, k2, _⟩ := h hl
            rw [e] at k1
            cases k1
            have := HL5.out
            have := HBC.out
            omega)
          refine own_lift (B' := w5.heap.size) ?_ HBK.out.size
          iterate 8 refine hset _ _ _ ?_
          exact HO7.out
        · iterate 8 refine Below.setCell ?_ (show w.heap.size ≤ w.heap.size from Nat.le_refl _) _
          exact BB.out

end Go.Proofs.YtknpgdglabibiaaGreatDoor

namespace Go.Proofs.YtknpgdglabibiaaGreatDoor
open Go.RowKit
set_option linter.unusedVariables false
set_option linter.unusedSimpArgs false

theorem cells_roomO {cu : Array Value} {o : Nat} {l : List At} (h : AtCells cu o l) (hl : 0 < l.length) : o + l.length * 2 ≤ cu.size := by
  have h1 := (h (l.length - 1) (by omega)).2
  have h2 : o + (l.length - 1) * 2 + 1 < cu.size := by
    rcases Nat.lt_or_ge (o + (l.length - 1) * 2 + 1) cu.size with h' | h'
    · exact h'
    · rw [Array.getElem?_eq_none h'] at h1
      cases h1
  omega

/-- The facts are marked. -/
def HeldC (w : World) (a : Option Addr) (n : Nat) : Prop := 0 < n → ∃ g o cu, a = some ⟨g, o, none⟩ ∧ w.heap[g]? = some (.cells cu 68 (0, 0)) ∧ MarksA cu o n 1

theorem HeldC.below {w w' : World} {a : Option Addr} {n : Nat} (h : HeldC w a n) (hb : Below w.heap.size w w') : HeldC w' a n := fun hn => by
  obtain ⟨g, o, cu, e1, e2, e3⟩ := h hn
  exact ⟨g, o, cu, e1, blk_below e2 hb, e3⟩

set_option maxHeartbeats 4000000 in
theorem cMarkClaimH (c : Cm) (a : Option Addr) (cap B : Nat) (w : World) (hO : OwnAts w B a c.facts) (hn : c.facts.length ≤ 1048576) :
    Calls Tryz.prog 11 #[cmV c a cap, .int .i64 1] w fun e w' => e = .returned (.int .i64 ((1 + 2 * c.facts.length : Nat) : Int)) ∧ HeldC w' a c.facts.length ∧ KeepB (fun b => ∃ o, a = some ⟨b, o, none⟩ ∧ 0 < c.facts.length) w w' := by
  have HB0 := hid ((Below.refl w.heap.size w).alloc (Nat.le_refl _) (.cells #[.string c.id, .string c.iss, .string c.sub, .int .i64 c.frm, .int .i64 c.til, .string c.whom, .string c.ans, .slice a c.facts.length cap] 26))
  have HO := hid hO
  unfold cmV
  clear hO
  rcases Nat.eq_zero_or_pos c.facts.length with h0 | h0
  · have CM := hid (fun wx => cMarkAttr0 a cap 1 wx)
    rw [h0] at HB0 hn ⊢
    go_enter Tryz.func11, Tryz.ntmps11
    go_wp2_with fail
    refine (CM.out _).mono ?_
    rintro e w1 ⟨rfl, rfl⟩
    go_wp2_with fail
    go_ret
    exact ⟨rfl, fun h => absurd h (Nat.lt_irrefl 0), KeepB.of_below _ HB0.out⟩
  · obtain ⟨g, o, cu, e1, e2, e3, e4⟩ := HO.out h0
    subst e1
    have CM := hid (cMarkAttrS g o cap c.facts.length 1 cu (w.alloc (.cells #[.string c.id, .string c.iss, .string c.sub, .int .i64 c.frm, .int .i64 c.til, .string c.whom, .string c.ans, .slice (some ⟨g, o, none⟩) c.facts.length cap] 26)) (blk_below e3 HB0.out) (cells_roomO e4 h0) (by omega))
    have H0 := hid h0
    clear e2 e3 e4 HO h0
    obtain ⟨n, hnn⟩ : ∃ n, c.facts.length = n := ⟨_, rfl⟩
    rw [hnn] at CM HB0 hn H0 ⊢
    clear hnn
    obtain ⟨K, hK⟩ : ∃ K, 1 + 2 * n = K := ⟨_, rfl⟩
    rw [hK] at CM ⊢
    clear hK
    go_enter Tryz.func11, Tryz.ntmps11
    go_wp2_with fail
    refine CM.out.mono ?_
    rintro e w1 ⟨rfl, hm, hgr⟩
    have HH := hid (show HeldC w1 (some ⟨g, o, none⟩) n from fun _ => by
      obtain ⟨cur, k1, _, k3⟩ := hm
      exact ⟨g, o, cur, rfl, k1, k3⟩)
    have HK := hid ((KeepB.of_below (fun b => ∃ o', (some ⟨g, o, none⟩ : Option Addr) = some ⟨b, o', none⟩ ∧ 0 < n) HB0.out).trans (KeepB.of_grown (p := fun b => ∃ o', (some ⟨g, o, none⟩ : Option Addr) = some ⟨b, o', none⟩ ∧ 0 < n) hgr ⟨o, rfl, H0.out⟩))
    clear hgr CM hm
    go_wp2_with fail
    go_ret
    exact ⟨rfl, HH.out, HK.out⟩

/-- The marked attrs. -/
def markL (n : Nat) : List At := (List.range n).map fun j => ⟨markS (1 + 2 * j), markS (1 + 2 * j + 1)⟩

theorem markL_len (n : Nat) : (markL n).length = n := by unfold markL; rw [List.length_map, List.length_range]

theorem markL_at (n j : Nat) (h : j < (markL n).length) : (markL n)[j] = ⟨markS (1 + 2 * j), markS (1 + 2 * j + 1)⟩ := by
  simp [markL]

theorem HeldC.row {w : World} {a : Option Addr} {n : Nat} (h : HeldC w a n) : AtRow w a (markL n) := fun j hj => by
  have hj' : j < n := by rw [markL_len] at hj; exact hj
  obtain ⟨g, o, cu, e1, e2, e3⟩ := h (by omega)
  rw [markL_at]
  exact ⟨g, o, e1, lt_of_heap e2, by rw [Lib.cell_of_heap e2]; exact (e3 j hj').1, by rw [Lib.cell_of_heap e2]; exact (e3 j hj').2⟩

set_option maxHeartbeats 4000000 in
theorem cHeldClaimH (c : Cm) (a : Option Addr) (cap : Nat) (w : World) (hH : HeldC w a c.facts.length) (hn : c.facts.length ≤ 1048576) :
    Calls Tryz.prog 12 #[cmV c a cap, .int .i64 1] w fun e w' => e = .returned (.int .i64 ((1 + 2 * c.facts.length : Nat) : Int)) ∧ Below w.heap.size w w' := by
  have HB0 := hid ((Below.refl w.heap.size w).alloc (Nat.le_refl _) (.cells #[.string c.id, .string c.iss, .string c.sub, .int .i64 c.frm, .int .i64 c.til, .string c.whom, .string c.ans, .slice a c.facts.length cap] 26))
  have CH := hid (fun (wx : World) (h : Below w.heap.size w wx) => cHeldAttrS a cap 1 (markL c.facts.length) wx ((hH.below h).row) (fun j hj => by rw [markL_at]; exact ⟨rfl, rfl⟩) (by rw [markL_len]; omega))
  rw [markL_len] at CH
  unfold cmV
  clear hH
  obtain ⟨n, hnn⟩ : ∃ n, c.facts.length = n := ⟨_, rfl⟩
  rw [hnn] at CH HB0 hn ⊢
  clear hnn
  obtain ⟨K, hK⟩ : ∃ K, 1 + 2 * n = K := ⟨_, rfl⟩
  rw [hK] at CH ⊢
  clear hK
  have hd : decide ((K : Int) < 0) = false := by simp
  go_enter Tryz.func12, Tryz.ntmps12
  go_wp2_with fail
  refine (CH.out _ HB0.out).mono ?_
  rintro e w1 ⟨rfl, hb1⟩
  have HB1 := hid (bb HB0.out hb1)
  clear hb1 CH
  go_wp2_with fail
  go_ret
  exact ⟨rfl, HB1.out⟩

theorem OwnAts.keep {w w' : World} {B : Nat} {p : Nat → Prop} {a : Option Addr} {l : List At} (h : OwnAts w B a l) (hk : KeepB p w w') (hp : ∀ b, p b → b < B) : OwnAts w' B a l := fun hl => by
  obtain ⟨g, o, cu, e1, e2, e3, e4⟩ := h hl
  exact ⟨g, o, cu, e1, e2, (hk.block g (lt_of_heap e3) (fun e => by have := hp g e; omega)).trans e3, e4⟩

theorem qdV_sz {ts : List Tk} {x : Int} (hz : TksSz 1048576 ts) : CmSz 1048576 (qdV ts x) := by
  unfold qdV
  split
  · rename_i h
    have hT : TreeP ts := by
      unfold qdI at h
      simp only [Bool.and_eq_true] at h
      have h2 := (idsB_t h.1.1.2).2
      unfold treeB at h2
      simpa using h2
    exact qdC_sz hT hz _
  · exact ⟨by decide, by decide, by decide, by decide, by decide, by decide, fun x hx => by cases hx⟩

end Go.Proofs.YtknpgdglabibiaaGreatDoor
