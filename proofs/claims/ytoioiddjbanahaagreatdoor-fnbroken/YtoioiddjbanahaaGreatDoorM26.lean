/-  -/
import Derived.Test.YtoioiddjbanahaaGreatDoorM25
import Derived.Test.YtoioiddjbanahaaGreatDoorM1
import Derived.Test.YtoioiddjbanahaaGreatDoorM21
import Derived.Test.YtoioiddjbanahaaGreatDoorM6
import Derived.Test.YtoioiddjbanahaaGreatDoorM7
set_option linter.unusedVariables false
set_option linter.unusedSimpArgs false
namespace Go.Proofs.YtoioiddjbanahaaGreatDoor

open Go.RowKit

theorem dg_sz (n : Int) : (⟨(dgL n).toArray⟩ : ByteArray).size <= 40 := by
 show (dgL n).toArray.size <= 40
 rw [List.size_toArray]
 unfold dgL
 split
 ·rename_i h
  have h1 := dec_le n.toNat (by omega)
  unfold padL
  rw [List.length_append, List.length_replicate]
  omega
 ·exact Nat.zero_le _

theorem seal_row (W : World) (ID SU SG : ByteArray) : TkRow (((W.alloc (.cells #[.string ⟨#[110, 115, 58, 115]⟩, .string ⟨#[115, 101, 97, 108]⟩, .string ⟨#[82, 101, 102]⟩, .string ID, .string ⟨#[83, 117, 109]⟩, .string SU, .string ⟨#[83, 105, 103, 110]⟩, .string SG] 67)).alloc
  (.cells #[.int .i64 (-1), .string ⟨#[115, 58, 83, 101, 97, 108]⟩, .slice (some ⟨W.heap.size, 0, none⟩) 4 4, .string ⟨#[]⟩] 32)).alloc
  (.cells #[.int .i64 (-1), .string ⟨#[115, 58, 83, 101, 97, 108]⟩, .slice (some ⟨W.heap.size, 0, none⟩) 4 4, .string ⟨#[]⟩] 32)) (some ⟨W.heap.size + 1 + 1, 0, none⟩) [sealTk ID SU SG] := by
 obtain ⟨W1, h1⟩ : ∃ W1, W.alloc (.cells #[.string ⟨#[110, 115, 58, 115]⟩, .string ⟨#[115, 101, 97, 108]⟩, .string ⟨#[82, 101, 102]⟩, .string ID, .string ⟨#[83, 117, 109]⟩, .string SU, .string ⟨#[83, 105, 103, 110]⟩, .string SG] 67) = W1 := ⟨_, rfl⟩
 have hA1 := heap_alloc_new W (.cells #[.string ⟨#[110, 115, 58, 115]⟩, .string ⟨#[115, 101, 97, 108]⟩, .string ⟨#[82, 101, 102]⟩, .string ID, .string ⟨#[83, 117, 109]⟩, .string SU, .string ⟨#[83, 105, 103, 110]⟩, .string SG] 67)
 have hs1 : W1.heap.size = W.heap.size + 1 := by rw [<- h1]; simp
 rw [h1] at hA1 ⊢
 obtain ⟨W2, h2⟩ : ∃ W2, W1.alloc (.cells #[.int .i64 (-1), .string ⟨#[115, 58, 83, 101, 97, 108]⟩, .slice (some ⟨W.heap.size, 0, none⟩) 4 4, .string ⟨#[]⟩] 32) = W2 := ⟨_, rfl⟩
 have hb2 : Below W1.heap.size W1 W2 := by rw [<- h2]; exact (Below.refl _ _).alloc (Nat.le_refl _) _
 have hs2 : W2.heap.size = W.heap.size + 1 + 1 := by rw [<- h2]; simp [hs1]
 rw [h2]
 have hN := heap_alloc_new W2 (.cells #[.int .i64 (-1), .string ⟨#[115, 58, 83, 101, 97, 108]⟩, .slice (some ⟨W.heap.size, 0, none⟩) 4 4, .string ⟨#[]⟩] 32)
 have hb3 : Below W1.heap.size W1 (W2.alloc (.cells #[.int .i64 (-1), .string ⟨#[115, 58, 83, 101, 97, 108]⟩, .slice (some ⟨W.heap.size, 0, none⟩) 4 4, .string ⟨#[]⟩] 32)) := hb2.alloc hb2.size _
 have hs3 : (W2.alloc (.cells #[.int .i64 (-1), .string ⟨#[115, 58, 83, 101, 97, 108]⟩, .slice (some ⟨W.heap.size, 0, none⟩) 4 4, .string ⟨#[]⟩] 32)).heap.size = W.heap.size + 1 + 1 + 1 := by simp [hs2]
 generalize W2.alloc (.cells #[.int .i64 (-1), .string ⟨#[115, 58, 83, 101, 97, 108]⟩, .slice (some ⟨W.heap.size, 0, none⟩) 4 4, .string ⟨#[]⟩] 32) = W3 at *
 rw [hs2] at hN
 have hA3 := (hb3.block W.heap.size (by omega)).trans hA1
 intro j hj
 obtain rfl : j = 0 := by
  have : j < 1 := hj
  omega
 refine ⟨W.heap.size + 1 + 1, 0, some ⟨W.heap.size, 0, none⟩, 4, rfl, by omega, ?_, ?_, ?_, ?_, ?_⟩
 ·rw [Lib.cell_of_heap hN]; rfl
 ·rw [Lib.cell_of_heap hN]; rfl
 ·rw [Lib.cell_of_heap hN]; rfl
 ·rw [Lib.cell_of_heap hN]; rfl
 ·intro i hi
  have hi4 : i < 4 := hi
  refine ⟨W.heap.size, 0, rfl, by omega, ?_, ?_⟩
  ·rw [Lib.cell_of_heap hA3]
   rcases (show i = 0 \/ i = 1 \/ i = 2 \/ i = 3 by omega) with rfl | rfl | rfl | rfl <;> rfl
  ·rw [Lib.cell_of_heap hA3]
   rcases (show i = 0 \/ i = 1 \/ i = 2 \/ i = 3 by omega) with rfl | rfl | rfl | rfl <;> rfl

theorem seal_tk_sz {ID SU SG : ByteArray} (h1 : ID.size <= 1048576) (h2 : SU.size <= 40) (h3 : SG.size <= 40) : TksSz 1048576 [sealTk ID SU SG] := by
 intro t ht
 rw [List.mem_singleton] at ht
 subst ht
 refine ⟨by show 6 <= 1048576; omega, by show 4 <= 1048576; omega, ?_, Nat.zero_le _⟩
 intro y hy
 have hy' : y = ⟨⟨#[110, 115, 58, 115]⟩, sealM⟩ \/ y = ⟨refS, ID⟩ \/ y = ⟨sumS, SU⟩ \/ y = ⟨signS, SG⟩ := by
  have h : y ∈ [(⟨⟨#[110, 115, 58, 115]⟩, sealM⟩ : At), ⟨refS, ID⟩, ⟨sumS, SU⟩, ⟨signS, SG⟩] := hy
  simpa using h
 rcases hy' with rfl | rfl | rfl | rfl
 ·exact ⟨by decide, by decide⟩
 ·exact ⟨by show 3 <= 1048576; omega, h1⟩
 ·exact ⟨by show 3 <= 1048576; omega, by show SU.size <= 1048576; omega⟩
 ·exact ⟨by show 4 <= 1048576; omega, by show SG.size <= 1048576; omega⟩

theorem good_parts {ts : List Tk} {x kn ke kd : Int} (h : goodB ts x kn ke kd = true) : namesB ts = true /\ idsB ts = true /\ elemB ts x = true /\ (sealsN ts x.toNat).length = 0 /\ okB kn ke kd = true /\ ¬ kd = 0 /\ (idAt ts x.toNat).isSome = true := by
 unfold goodB at h
 simp only [Bool.and_eq_true, decide_eq_true_eq, Bool.not_eq_true', decide_eq_false_iff_not] at h
 obtain ⟨⟨⟨⟨⟨⟨h1, h2⟩, h3⟩, h4⟩, h5⟩, h6⟩, h7⟩ := h
 exact ⟨h1, h2, h3, h4, h5, h6, h7⟩

set_option maxRecDepth 4000 in
set_option maxHeartbeats 16000000 in
theorem cSealingS_yes (a : Option Addr) (cap : Nat) (ts : List Tk) (x kn ke kd : Int) (w : World) (hR : TkRow w a ts) (hc : ts.length <= cap) (hcm : cap <= maxLen) (hn : ts.length <= 1048576) (hz : TksSz 1048576 ts) (hD : kd <= 9223372036854775807) (hT : treeB ts = true) (hg : goodB ts x kn ke kd = true) :
  Calls Tryz.prog 93 #[.slice a ts.length cap, .int .i64 x, .agg #[.int .i64 kn, .int .i64 ke, .int .i64 kd]] w (TreeAns w (graftL ts [sealOf ts x.toNat kn ke kd] x) (graftB ts [sealOf ts x.toNat kn ke kd] x)) := by
 have HBA := hid ((Below.refl w.heap.size w).alloc (Nat.le_refl _) (.cells #[.int .i64 kn, .int .i64 ke, .int .i64 kd] 26))
 have HBX := hid (box_key w (.int .i64 kn) (.int .i64 ke) (.int .i64 kd) 26)
 have C := hid (fun wx (hb : Below w.heap.size w wx) => cTreeOkS a cap ts wx (hR.below hb) hn hz)
 have CC := hid (fun wx (hb : Below w.heap.size w wx) => cCopyT a cap ts wx (hR.below hb) hn hz)
 have CN := hid (fun wx (hb : Below w.heap.size w wx) => cNamesOkS a cap ts wx (hR.below hb) hn hz)
 have CI := hid (fun wx (hb : Below w.heap.size w wx) => cIdsOkS a cap ts wx (hR.below hb) hn hz)
 have CE := hid (fun wx (hb : Below w.heap.size w wx) => c_spec_l9Element a cap ts x wx (hR.below hb) hn hz)
 have CK := hid (fun wx (hb : Below w.heap.size w wx) => cKeyOkS kn ke kd wx)
 obtain ⟨h1, h2, h3, h4, h5, h6, h7⟩ := good_parts hg
 have HG7 := hid (show ∀ br : List Tk, graftB ts br x = false -> graftL ts br x = ts from fun br h => by unfold graftL; rw [hT, h]; rfl)
 rw [hT] at C
 rw [h1] at CN
 rw [h2] at CI
 rw [h3] at CE
 rw [h5] at CK
 obtain ⟨hTP, k, rfl, hk⟩ := elemB_t h3
 have hkn : (k : Int) < (ts.length : Int) := by omega
 have CS := hid (fun wx (hb : Below w.heap.size w wx) => c_spec_l13Seals a cap ts k wx (hR.below hb) hTP hk hn hz)
 have CV := hid (fun wx (hb : Below w.heap.size w wx) => cIdAtS (hR.below hb) hn hz hk)
 have CG := hid (fun wx (hb : Below w.heap.size w wx) (br : List Tk) a2 cap2 (hb2 : TkRow wx a2 br) (h9 : br.length <= 1048576) (h8 : TksSz 1048576 br) => cGraftedS a a2 cap cap2 ts br (k : Int) wx (hR.below hb) hb2 hc hcm hn h9 hz h8)
 have CT := hid (fun wx (hb : Below w.heap.size w wx) => c_spec_l11Canon a cap ts (-1) hTP hz ts.length k [] none 0 wx (hR.below hb) hk (by omega) (fun j hj => absurd hj (Nat.not_lt_zero _)) (Nat.zero_le _))
 have CH := hid (fun wx => cHashSW (canonN ts (-1) ts.length k []) wx (canon_few hTP hz _ _ _ _ hk))
 have CD := hid (fun wx (hb : Below w.heap.size w wx) => cDigS ((hsL (canonN ts (-1) ts.length k []).data.toList : Nat) : Int) wx)
 rw [show sealsN ts k = [] from List.eq_nil_of_length_eq_zero h4] at CS
 have h7' : (idAt ts k).isSome = true := h7
 clear h7
 have e6 : (kd == 0) = false := by simp [h6]
 rw [h7'] at CV
 show Calls _ _ _ _ (TreeAns w (graftL ts [sealOf ts k kn ke kd] (k : Int)) (graftB ts [sealOf ts k kn ke kd] (k : Int)))
 obtain ⟨ID, hID⟩ : ∃ ID, (idAt ts k).getD ByteArray.empty = ID := ⟨_, rfl⟩
 have HIZ := hid (show ID.size <= 1048576 by
  rw [<- hID]
  cases hq : idAt ts k with
  | none => exact Nat.zero_le _
  | some v => exact idAt_sz hz hk hq)
 have HSO := hid (show sealOf ts k kn ke kd = sealTk ID (sumN ts k (-1)) (signN ts k kn ke kd ID) by unfold sealOf; rw [hID])
 rw [hID] at CV
 rw [HSO.out]
 have HSD := hid (show sumN ts k (-1) = ⟨(dgL ((hsL (canonN ts (-1) ts.length k []).data.toList : Nat) : Int)).toArray⟩ from rfl)
 have HSN := hid (show signN ts k kn ke kd ID = ⟨(dgL (lockI kn ke kd ((hsL (spokenF ID (sumN ts k (-1))).data.toList : Nat) : Int))).toArray⟩ from rfl)
 rw [<- HSD.out] at CD
 obtain ⟨SU, hSU⟩ : ∃ SU, sumN ts k (-1) = SU := ⟨_, rfl⟩
 obtain ⟨SG, hSG⟩ : ∃ SG, signN ts k kn ke kd ID = SG := ⟨_, rfl⟩
 have HUZ := hid (show SU.size <= 40 by rw [<- hSU, HSD.out]; exact dg_sz _)
 have HGZ := hid (show SG.size <= 40 by rw [<- hSG, HSN.out]; exact dg_sz _)
 rw [hSU] at CD HSN ⊢
 rw [hSG] at HSN ⊢
 have CP := hid (fun wx : World => (cSpokenS ID SU wx HIZ.out (by have := HUZ.out; omega)).mono fun e w' (h : e = _ /\ w' = wx) => (⟨h.1, by rw [h.2]; exact Below.refl _ _⟩ : e = _ /\ Below wx.heap.size wx w'))
 have CQ := hid (fun wx : World => (cHashSW (spokenF ID SU) wx (by rw [spoken_size]; have := HIZ.out; have := HUZ.out; omega)).mono fun e w' (h : e = _ /\ w' = wx) => (⟨h.1, by rw [h.2]; exact Below.refl _ _⟩ : e = _ /\ Below wx.heap.size wx w'))
 have CL := hid (fun wx : World => cLockedS kn ke kd ((hsL (spokenF ID SU).data.toList : Nat) : Int) wx hD)
 have CF := hid (fun wx : World => cDigS (lockI kn ke kd ((hsL (spokenF ID SU).data.toList : Nat) : Int)) wx)
 rw [<- HSN.out] at CF
 have CG1 := hid (fun wx (hb : Below w.heap.size w wx) a2 cap2 (hb2 : TkRow wx a2 [sealTk ID SU SG]) => CG.out wx hb [sealTk ID SU SG] a2 cap2 hb2 (by show 1 <= 1048576; omega) (seal_tk_sz HIZ.out HUZ.out HGZ.out))
 have HGF := hid (HG7.out [sealTk ID SU SG])
 obtain ⟨GB, hGB⟩ : ∃ GB, graftB ts [sealTk ID SU SG] (k : Int) = GB := ⟨_, rfl⟩
 obtain ⟨GL, hGL⟩ : ∃ GL, graftL ts [sealTk ID SU SG] (k : Int) = GL := ⟨_, rfl⟩
 rw [hGB, hGL] at CG1 HGF ⊢
 clear CG HG7 hGB hGL hc hcm
 clear hR hz hT hg h1 h2 h3 h4 h5 h6 h7' hTP hk hID HSO HSD HSN hSU hSG hD
 generalize canonN ts (-1) ts.length k [] = CT1 at *
 generalize hsL CT1.data.toList = H1 at *
 generalize spokenF ID SU = SP at *
 generalize hsL SP.data.toList = H2 at *
 generalize lockI kn ke kd ((H2 : Nat) : Int) = LK at *
 generalize ts.length = n at *
 go_enter Tryz.func93, Tryz.ntmps93
 go_wp2_with fail
 refine (C.out _ HBA.out).mono ?_
 rintro e w1 ⟨rfl, hb1⟩
 have HB1 := hid (bb HBA.out hb1)
 have HA1 := hid hb1
 clear hb1 C HBA
 go_wp2_with fail
 refine (CC.out _ HB1.out).mono ?_
 rintro e w2 ⟨v8, rfl, hr2⟩
 have HB2 := hid (bb HB1.out hr2.bel)
 have HA2 := hid (bb HA1.out hr2.bel)
 have HS2 := hid (RowOf.later HB1.out hr2)
 clear hr2 CC HB1 HA1
 go_wp2_with fail
 refine (CN.out _ HB2.out).mono ?_
 rintro e w3 ⟨rfl, hb⟩
 have HB3 := hid (bb HB2.out hb)
 have HA3 := hid (bb HA2.out hb)
 have HS3 := hid (HS2.out.below hb)
 clear hb CN HB2 HA2 HS2
 go_wp2_with fail
 refine (CI.out _ HB3.out).mono ?_
 rintro e w4 ⟨rfl, hb⟩
 have HB4 := hid (bb HB3.out hb)
 have HA4 := hid (bb HA3.out hb)
 have HS4 := hid (HS3.out.below hb)
 clear hb CI HB3 HA3 HS3
 go_wp2_with fail
 refine (CE.out _ HB4.out).mono ?_
 rintro e w5 ⟨rfl, hb⟩
 have HB5 := hid (bb HB4.out hb)
 have HA5 := hid (bb HA4.out hb)
 have HS5 := hid (HS4.out.below hb)
 clear hb CE HB4 HA4 HS4
 go_wp2_with fail
 refine (CS.out _ HB5.out).mono ?_
 rintro e w6 ⟨v9, rfl, ho9, hb⟩
 obtain ⟨a9, c9, rfl, -⟩ := own64 ho9
 have HB6 := hid (bb HB5.out hb)
 have HA6 := hid (bb HA5.out hb)
 have HS6 := hid (HS5.out.below hb)
 clear hb ho9 CS HB5 HA5 HS5
 have d0 := (HA6.out.cell (p := ⟨w.heap.size, 0, none⟩) HBX.out.2.2.2).trans HBX.out.1
 have d1 := (HA6.out.cell (p := ⟨w.heap.size, 1, none⟩) HBX.out.2.2.2).trans HBX.out.2.1
 have d2 := (HA6.out.cell (p := ⟨w.heap.size, 2, none⟩) HBX.out.2.2.2).trans HBX.out.2.2.1
 go_wp2_with fail
 refine (CK.out _ HB6.out).mono ?_
 rintro e w7 ⟨rfl, hb⟩
 have HB7 := hid (bb HB6.out hb)
 have HA7 := hid (bb HA6.out hb)
 have HS7 := hid (HS6.out.below hb)
 clear hb CK HB6 HA6 HS6
 clear d0 d1 d2
 have d0 := (HA7.out.cell (p := ⟨w.heap.size, 0, none⟩) HBX.out.2.2.2).trans HBX.out.1
 have d1 := (HA7.out.cell (p := ⟨w.heap.size, 1, none⟩) HBX.out.2.2.2).trans HBX.out.2.1
 have d2 := (HA7.out.cell (p := ⟨w.heap.size, 2, none⟩) HBX.out.2.2.2).trans HBX.out.2.2.1
 obtain ⟨b, o, aa, na, ca, rfl, c2, hcall⟩ := CV.out _ HB7.out
 have HC := hid hcall
 clear hcall CV
 go_wp2_with fail
 refine HC.out.mono ?_
 rintro e w8 ⟨rfl, rfl⟩
 clear HC c2
 go_wp2_with fail
 refine (CT.out _ HB7.out).mono ?_
 rintro e w8 ⟨rfl, hb⟩
 have HB8 := hid (bb HB7.out hb)
 have HA8 := hid (bb HA7.out hb)
 have HS8 := hid (HS7.out.below hb)
 clear hb CT HB7 HA7 HS7
 go_wp2_with fail
 refine (CH.out _).mono ?_
 rintro e w9 ⟨rfl, rfl⟩
 clear CH
 go_wp2_with fail
 refine (CD.out _ HB8.out).mono ?_
 rintro e w9 ⟨rfl, hb⟩
 have HB9 := hid (bb HB8.out hb)
 have HA9 := hid (bb HA8.out hb)
 have HS9 := hid (HS8.out.below hb)
 clear hb CD HB8 HA8 HS8
 have HNB := hid (bw_any w9)
 have hwl := Nat.lt_of_lt_of_le HBX.out.2.2.2 HA9.out.size
 have d0 := (HA9.out.cell (p := ⟨w.heap.size, 0, none⟩) HBX.out.2.2.2).trans HBX.out.1
 have d1 := (HA9.out.cell (p := ⟨w.heap.size, 1, none⟩) HBX.out.2.2.2).trans HBX.out.2.1
 have d2 := (HA9.out.cell (p := ⟨w.heap.size, 2, none⟩) HBX.out.2.2.2).trans HBX.out.2.2.1
 have k0 : ∀ p : BW w9, p.w.cell? ⟨w.heap.size, 0, none⟩ = some (.int .i64 kn) := fun p => (p.h.cell (p := ⟨w.heap.size, 0, none⟩) hwl).trans d0
 have k1 : ∀ p : BW w9, p.w.cell? ⟨w.heap.size, 1, none⟩ = some (.int .i64 ke) := fun p => (p.h.cell (p := ⟨w.heap.size, 1, none⟩) hwl).trans d1
 have k2 : ∀ p : BW w9, p.w.cell? ⟨w.heap.size, 2, none⟩ = some (.int .i64 kd) := fun p => (p.h.cell (p := ⟨w.heap.size, 2, none⟩) hwl).trans d2
 clear d0 d1 d2 hwl HBX HA9
 go_wp2_with fail
 haveI := HNB.out
 refine wp_region_below (by kernel_rfl) (by kernel_rfl) (Below.refl w9.heap.size w9) ?_
 repeat (go_big_quiet_step ((first | (go_at_call 72; exact calls_bw _ (CP.out _)) | (go_at_call 70; exact calls_bw _ (CQ.out _)) | (go_at_call 139; exact calls_bw _ (CL.out _)) | (go_at_call 69; exact calls_bw _ (CF.out _)))))
 refine wpQuiet_nil ?_
 intro wQ hw'
 obtain ⟨⟨wQ', hwq⟩, hw''⟩ := hw'
 obtain rfl : wQ = wQ' := hw''
 have HBQ := hid (bb HB9.out hwq)
 have HSQ := hid (HS9.out.below hwq)
 clear hwq k0 k1 k2 CP CQ CL CF HB9 HS9
 go_wp2_with fail
 have HBR := hid (((HBQ.out.alloc HBQ.out.size (.cells #[.string ⟨#[110, 115, 58, 115]⟩, .string ⟨#[115, 101, 97, 108]⟩, .string ⟨#[82, 101, 102]⟩, .string ID, .string ⟨#[83, 117, 109]⟩, .string SU, .string ⟨#[83, 105, 103, 110]⟩, .string SG] 67)).alloc (by simp only [World.size_alloc]; have := HBQ.out.size; omega) (.cells #[.int .i64 (-1), .string ⟨#[115, 58, 83, 101, 97, 108]⟩, .slice (some ⟨wQ.heap.size, 0, none⟩) 4 4, .string ⟨#[]⟩] 32)).alloc (by simp only [World.size_alloc]; have := HBQ.out.size; omega) (.cells #[.int .i64 (-1), .string ⟨#[115, 58, 83, 101, 97, 108]⟩, .slice (some ⟨wQ.heap.size, 0, none⟩) 4 4, .string ⟨#[]⟩] 32))
 have HBT := hid ((((Below.refl wQ.heap.size wQ).alloc (Nat.le_refl _) (.cells #[.string ⟨#[110, 115, 58, 115]⟩, .string ⟨#[115, 101, 97, 108]⟩, .string ⟨#[82, 101, 102]⟩, .string ID, .string ⟨#[83, 117, 109]⟩, .string SU, .string ⟨#[83, 105, 103, 110]⟩, .string SG] 67)).alloc (by simp only [World.size_alloc]; omega) (.cells #[.int .i64 (-1), .string ⟨#[115, 58, 83, 101, 97, 108]⟩, .slice (some ⟨wQ.heap.size, 0, none⟩) 4 4, .string ⟨#[]⟩] 32)).alloc (by simp only [World.size_alloc]; omega) (.cells #[.int .i64 (-1), .string ⟨#[115, 58, 83, 101, 97, 108]⟩, .slice (some ⟨wQ.heap.size, 0, none⟩) 4 4, .string ⟨#[]⟩] 32))
 have HST := hid (HSQ.out.below HBT.out)
 refine (CG1.out _ HBR.out _ 1 (seal_row wQ ID SU SG)).mono ?_
 rintro e w11 ⟨v9, rfl, hr⟩
 have HSU := hid (HST.out.below hr.bel)
 have HSR := hid (RowOf.later HBR.out hr)
 clear hr CG1 HBR HBT HST HBQ HSQ
 cases GB with
 | true =>
  go_wp2_with fail
  go_ret2
  exact ⟨_, rfl, HSR.out⟩
 | false =>
  have HL := hid (HGF.out rfl)
  go_wp2_with fail
  go_ret2
  exact ⟨_, rfl, by rw [HL.out]; exact HSU.out⟩

theorem cSealingS (a : Option Addr) (cap : Nat) (ts : List Tk) (x kn ke kd : Int) (w : World) (hR : TkRow w a ts) (hc : ts.length <= cap) (hcm : cap <= maxLen) (hn : ts.length <= 1048576) (hz : TksSz 1048576 ts) (hD : kd <= 9223372036854775807) :
  Calls Tryz.prog 93 #[.slice a ts.length cap, .int .i64 x, .agg #[.int .i64 kn, .int .i64 ke, .int .i64 kd]] w (TreeAns w (sealingL ts x kn ke kd) (sealingB ts x kn ke kd)) := by
 cases hT : treeB ts with
 | false =>
  have h1 : goodB ts x kn ke kd = false := by
   unfold goodB
   rw [elemB_tree hT]
   simp
  rw [show sealingL ts x kn ke kd = [] by unfold sealingL; rw [hT]; rfl, show sealingB ts x kn ke kd = false by unfold sealingB; rw [h1]; rfl]
  exact cSealingS_tree a cap ts x kn ke kd w hR hn hz hT
 | true =>
  cases hg : goodB ts x kn ke kd with
  | false =>
   have h2 : sealingB ts x kn ke kd = false := by unfold sealingB; rw [hg]; rfl
   rw [show sealingL ts x kn ke kd = ts by unfold sealingL; rw [hT, h2]; rfl, h2]
   exact cSealingS_no a cap ts x kn ke kd w hR hn hz hT hg
  | true =>
   have h2 : sealingB ts x kn ke kd = graftB ts [sealOf ts x.toNat kn ke kd] x := by unfold sealingB; rw [hg]; rfl
   have h3 : sealingL ts x kn ke kd = graftL ts [sealOf ts x.toNat kn ke kd] x := by
    unfold sealingL
    rw [hT, h2]
    cases hq : graftB ts [sealOf ts x.toNat kn ke kd] x with
    | true => rfl
    | false =>
     show ts = _
     unfold graftL
     rw [hT, hq]
     rfl
   rw [h2, h3]
   exact cSealingS_yes a cap ts x kn ke kd w hR hc hcm hn hz hD hT hg

end Go.Proofs.YtoioiddjbanahaaGreatDoor

namespace Go.Proofs.YtoioiddjbanahaaGreatDoor

open Go.RowKit

theorem preS_szJ {s : ByteArray} (h : s.size <= 100) : (preS s).size <= 100 := by
 unfold preS
 rw [size_mk]
 have e : s.data.toList.length = s.size := rfl
 unfold partP
 split
 ·have := len_pre s.data.toList
  omega
 ·simp

theorem meanF_szJ {ts : List Tk} {i : Nat} (hz : TksSz 100 ts) (p : ByteArray) : ((meanF ts i p).getD ⟨#[]⟩).size <= 100 := by
 unfold meanF meanL
 split
 ·cases hf : (upAts ts (chainF ts (i + 1))).find? (declB p) with
  | none =>
   simp only
   split
   ·exact Nat.zero_le _
   ·exact Nat.zero_le _
  | some y =>
   simp only [Option.getD_some]
   have hy := List.mem_of_find?_eq_some hf
   unfold upAts at hy
   obtain ⟨j, _, hj⟩ := List.mem_flatMap.1 hy
   cases ht : ts[j]? with
   | none => rw [ht] at hj; exact absurd hj List.not_mem_nil
   | some t =>
    rw [ht] at hj
    exact ((hz t (List.mem_of_getElem? ht)).2.2.1 y hj).2
 ·exact Nat.zero_le _

theorem dclL_allJ {ts : List Tk} {k : Nat} (hz : TksSz 100 ts) (sd : List At) (s : ByteArray) (ps : List ByteArray) (hp : ∀ p ∈ ps, p.size <= 100) : (dclL ts k sd s ps).1.length <= sd.length + ps.length /\ (dclL ts k sd s ps).2.size <= s.size + 210 * ps.length := by
 unfold dclL
 induction ps generalizing sd s with
 | nil => exact ⟨by simp, by simp⟩
 | cons p ps ih =>
  rw [List.foldl_cons, List.length_cons]
  have h1 := hp p (by simp)
  have h2 : (mnF ts k p).size <= 100 := meanF_szJ hz p
  have h3 := dclS_size s p (mnF ts k p)
  unfold dclF
  simp only
  split
  ·obtain ⟨g1, g2⟩ := ih sd s (fun q hq => hp q (by simp [hq]))
   unfold dclF at g1 g2
   exact ⟨by omega, by omega⟩
  ·obtain ⟨g1, g2⟩ := ih (sd ++ [⟨p, mnF ts k p⟩]) (dclS s p (mnF ts k p)) (fun q hq => hp q (by simp [hq]))
   unfold dclF at g1 g2
   rw [List.length_append, List.length_singleton] at g1
   exact ⟨by omega, by omega⟩

theorem atsS_szCJ {l : List At} (hl : AtSz 100 l) (s : ByteArray) : (atsS l s).size <= s.size + 800 * l.length := by
 induction l generalizing s with
 | nil => simp [atsS]
 | cons x l ih =>
  have h1 := hl x (by simp)
  have h2 := atS_size x
  have h3 := ih (fun y hy => hl y (by simp [hy])) (s ++ atS x)
  rw [ByteArray.size_append] at h3
  show (atsS l (s ++ atS x)).size <= _
  rw [List.length_cons]
  omega

theorem nodeAt_szJ {ts : List Tk} (hz : TksSz 100 ts) (k : Nat) : TkSz 100 (nodeAt ts k) := by
 by_cases h : k < ts.length
 ·rw [nodeAt_at h]; exact hz _ (List.getElem_mem h)
 ·unfold nodeAt
  rw [List.getElem?_eq_none (by omega)]
  exact ⟨Nat.zero_le _, Nat.zero_le _, fun x hx => absurd hx List.not_mem_nil, Nat.zero_le _⟩

theorem head_allJ {ts : List Tk} {k : Nat} {sd : List At} {t : Tk} (hz : TksSz 100 ts) (ht : TkSz 100 t) (h6 : t.attrs.length <= 6) : (headS ts k sd t).size <= 6500 /\ (saidL ts k sd t).length <= sd.length + 7 := by
 obtain ⟨p1, p2, p3⟩ := preL7_all (b := 100) (preS_szJ ht.1) t.attrs (fun x hx => preS_szJ (ht.2.2.1 x hx).1)
 obtain ⟨d1, d2⟩ := dclL_allJ (k := k) hz sd ((⟨#[60]⟩ : ByteArray) ++ t.name) (preL7 t.name t.attrs) p3
 obtain ⟨o1, o2⟩ := othL_all (ts := ts) (k := k) t.attrs
 have a1 := atsS_szCJ (l := othL ts k t.attrs) (fun y hy => ht.2.2.1 y (o2 y hy)) (dclL ts k sd ((⟨#[60]⟩ : ByteArray) ++ t.name) (preL7 t.name t.attrs)).2
 have e1 : ((⟨#[60]⟩ : ByteArray) ++ t.name).size = 1 + t.name.size := by rw [ByteArray.size_append]; rfl
 have e2 : (⟨#[62]⟩ : ByteArray).size = 1 := rfl
 have := ht.1
 unfold headS saidL
 rw [ByteArray.size_append, e2]
 exact ⟨by omega, by omega⟩

theorem canon_sizeJ {ts : List Tk} (hT : TreeP ts) (hz : TksSz 100 ts) (but : Int) : ∀ f k sd, k < ts.length -> (canonN ts but f k sd).size <= 7000 * (endN ts k - k)
 | 0, k, sd, _ => Nat.zero_le _
 | f + 1, k, sd, hk => by
  have hle := endN_le hk
  have hm : 7000 * 1 <= 7000 * (endN ts k - k) := Nat.mul_le_mul_left _ (by omega)
  have hsz := nodeAt_szJ hz k
  by_cases hb : (k : Int) = but
  ·rw [canonN_but hb]
   exact Nat.zero_le _
  ·by_cases hn : (nodeAt ts k).name.size = 0
   ·rw [canonN_text rfl hb hn]
    have h1 := escS_size false (nodeAt ts k).text
    have h2 := hsz.2.2.2
    omega
   ·rw [canonN_el rfl hb hn]
    have h1 := (head_allJ (k := k) (sd := sd) hz hsz (six_at hT k hn)).1
    obtain ⟨m, m1, m2, m3, _⟩ := kids_sum 7000 (fun j => (canonN ts but f j (saidL ts k sd (nodeAt ts k))).size) hk (fun i h1 h2 => canon_sizeJ hT hz but f i _ (by omega)) (endN ts k) hle.1 (Nat.le_refl _)
    have e1 : (⟨#[60, 47]⟩ : ByteArray).size = 2 := rfl
    have e2 : (⟨#[62]⟩ : ByteArray).size = 1 := rfl
    rw [ByteArray.size_append, ByteArray.size_append, ByteArray.size_append, fold_size, kidsTo_end hT hk, e1, e2]
    have h3 : 7000 * (m - (k + 1)) <= 7000 * (endN ts k - (k + 1)) := Nat.mul_le_mul_left _ (by omega)
    have h4 : 7000 * (endN ts k - (k + 1)) + 7000 * 1 = 7000 * (endN ts k - k) := by rw [<- Nat.mul_add]; congr 1; omega
    have h5 := hsz.1
    omega

theorem nameL_lenJ {l : List UInt8} (h : nameL l = true) : l.length <= 21 := by
 unfold nameL at h
 split at h
 ·unfold lettersL at h
  simp only [Bool.and_eq_true, decide_eq_true_eq] at h
  omega
 ·rename_i a ha
  rw [Bool.and_eq_true] at h
  obtain ⟨h1, h2⟩ := h
  unfold lettersL at h1 h2
  simp only [Bool.and_eq_true, decide_eq_true_eq] at h1 h2
  have e1 : (preL l).length = min a l.length := by unfold preL; rw [ha]; simp
  have e2 : (locL l).length = l.length - (a + 1) := by unfold locL; rw [ha]; simp
  have : a < l.length := by
   unfold colonAt at ha
   rw [List.findIdx?_eq_some_iff_getElem] at ha
   exact ha.1
  omega

theorem node_rightJ {ts : List Tk} (hT : TreeP ts) {x : Nat} (hx : x < ts.length) : nodeB ts[x] = true := by
 obtain ⟨⟨_, h⟩, _⟩ := hT.2.2.2.2 x hx
 exact h

theorem tree_smallJ {ts : List Tk} (hT : TreeP ts) : TksSz 100 ts := by
 intro t ht
 obtain ⟨k, hk, rfl⟩ := List.getElem_of_mem ht
 have ht := tree_text hT k
 rw [textAt_at hk] at ht
 have hb := node_rightJ hT hk
 by_cases h0 : ts[k].name.size = 0
 ·rw [nodeB_tx h0, Bool.and_eq_true] at hb
  have hl := of_decide_eq_true hb.1
  exact ⟨by omega, by omega, fun x hx => by rw [List.eq_nil_of_length_eq_zero hl] at hx; exact absurd hx List.not_mem_nil, by omega⟩
 ·rw [nodeB_el h0, Bool.and_eq_true, Bool.and_eq_true] at hb
  have ho : AttrsOk ts[k].attrs := by
   by_cases q : AttrsOk ts[k].attrs
   ·exact q
   ·rw [attrsB_f q] at hb; cases hb.2.1
  have hnm := nameL_lenJ hb.1
  rw [<- sz] at hnm
  refine ⟨by omega, by have := ho.1; omega, fun x hx => ?_, by omega⟩
  obtain ⟨j, hj, rfl⟩ := List.getElem_of_mem hx
  obtain ⟨z1, z2, z3⟩ := ho.2.1 j hj hj
  have := nameL_lenJ z1
  rw [<- sz] at this
  exact ⟨by omega, by omega⟩

theorem canon_tiny {ts : List Tk} (hT : TreeP ts) (but : Int) (f k : Nat) (sd : List At) (hk : k < ts.length) : (canonN ts but f k sd).size <= 350000 := by
 have h1 := canon_sizeJ hT (tree_smallJ hT) but f k sd hk
 have h2 := (endN_le hk).2
 have h50 : ts.length <= 50 := hT.2.1
 have h3 : 7000 * (endN ts k - k) <= 7000 * 50 := Nat.mul_le_mul_left _ (by omega)
 omega

end Go.Proofs.YtoioiddjbanahaaGreatDoor

namespace Go.Proofs.YtoioiddjbanahaaGreatDoor

open Go.RowKit

def IdxIs (l : List At) (name : ByteArray) (r : Int) : Prop :=
 (r = -1 /\ ∀ x ∈ l, ¬ x.name = name) \/ ∃ i : Nat, ∃ h : i < l.length, r = (i : Int) /\ l[i].name = name /\ ∀ x ∈ l.take i, ¬ x.name = name

theorem cell_alloc {w : World} {p : Addr} {v : Value} (h : w.cell? p = some v) (hp : p.block < w.heap.size) (o : Obj) : (w.alloc o).cell? p = some v :=
 (((Below.refl w.heap.size w).alloc (Nat.le_refl _) o).cell hp).trans h

set_option maxHeartbeats 1000000 in
theorem cAttrAt1 (n v name : ByteArray) (b o : Nat) (w : World) (hp : b < w.heap.size) (hc : w.cell? ⟨b, o, none⟩ = some (.string name)) (hn : n.size <= 1048576) (hm : name.size <= 1048576) :
  Calls Tryz.prog 152 #[.agg #[.string n, .string v], .pointer (some ⟨b, o, none⟩)] w fun e w' => e = .returned (.bool (decide (n = name))) /\ Below w.heap.size w w' := by
 have HB0 := hid ((Below.refl w.heap.size w).alloc (Nat.le_refl _) (.cells #[.string n, .string v] 67))
 have c1 := cell_alloc hc hp (.cells #[.string n, .string v] 67)
 have hd := str_beq n name
 generalize decide (n = name) = D at hd ⊢
 clear hc
 go_enter Tryz.func152, Tryz.ntmps152
 go_wp2
 go_ret
 exact ⟨rfl, HB0.out⟩

set_option maxHeartbeats 1000000 in
theorem cIndexFunc (a : Option Addr) (cap : Nat) (l : List At) (name : ByteArray) (b0 o0 : Nat) (w : World) (hR : AtRow w a l) (hz : AtSz 1048576 l) (hn : l.length <= 1048576) (hm : name.size <= 1048576)
  (hp : b0 < w.heap.size) (hc : w.cell? ⟨b0, o0, none⟩ = some (.string name)) :
  Calls Tryz.prog 151 #[.slice a l.length cap, .func (.func 152) #[] #[.pointer (some ⟨b0, o0, none⟩)]] w fun e w' => ∃ r : Int, e = .returned (.int .i64 r) /\ IdxIs l name r /\ Below w.heap.size w w' := by
 have HR := hid hR
 have HZ := hid hz
 have HC := hid hc
 have HP := hid hp
 clear hR hz hc hp
 obtain ⟨n, hnn⟩ : ∃ n, l.length = n := ⟨_, rfl⟩
 have HN := hid hnn
 rw [hnn] at hn ⊢
 clear hnn
 go_enter Tryz.func151, Tryz.ntmps151
 go_wp2
 go_loopw [8] (fun k wr => ∃ i : Nat, k = .int .i64 (i : Int) /\ i <= n /\ Hid (∀ x ∈ l.take i, ¬ x.name = name) /\ Hid (Below w.heap.size w wr)) (fun k _ => n - (intOf k).toNat)
 case atStart => exact ⟨0, rfl, Nat.zero_le _, fun x hx => by simp at hx, Below.refl _ _⟩
 case round =>
  obtain ⟨i, rfl, hi, HO, HB⟩ := hrel
  by_cases hlt : i < n
  ·have his : i < l.length := by rw [HN.out]; exact hlt
   obtain ⟨b, o, rfl, hb, c1, c2⟩ := HR.out.below HB.out i his
   have hin : (i : Int) < (n : Int) := by omega
   have HT := hid (take_snocN his)
   have z1 := (HZ.out _ (List.getElem_mem his)).1
   have HS := hid HB.out.size
   have HCr := hid ((HB.out.cell (p := ⟨b0, o0, none⟩) HP.out).trans HC.out)
   have C := hid (cAttrAt1 l[i].name l[i].value name b0 o0 wr (Nat.lt_of_lt_of_le HP.out HS.out) HCr.out z1 hm)
   by_cases hq : l[i].name = name
   ·have HI := hid (show IdxIs l name (i : Int) from .inr ⟨i, his, rfl, hq, HO.out⟩)
    have e0 : decide (l[i].name = name) = true := decide_eq_true hq
    rw [e0] at C
    generalize l[i].name = x at *
    generalize l[i].value = y at *
    clear hq e0
    go_wp2_with fail
    refine C.out.mono ?_
    rintro e w1 ⟨rfl, hb1⟩
    have HB1 := hid (bb HB.out hb1)
    go_wp2
    go_ret
    exact ⟨_, rfl, HI.out, HB1.out⟩
   ·have HO2 := hid (show ∀ x ∈ l.take (i + 1), ¬ x.name = name by
     rw [HT.out]
     intro x hx
     rcases List.mem_append.1 hx with h | h
     ·exact HO.out x h
     ·rw [List.mem_singleton] at h
      subst h
      exact hq)
    have e0 : decide (l[i].name = name) = false := decide_eq_false hq
    rw [e0] at C
    generalize l[i].name = x at *
    generalize l[i].value = y at *
    clear hq e0
    go_wp2_with fail
    refine C.out.mono ?_
    rintro e w1 ⟨rfl, hb1⟩
    have HB1 := hid (bb HB.out hb1)
    go_wp2
    go_roundw
    case rel => exact ⟨i + 1, by go_num, by omega, HO2.out, HB1.out⟩
    case measure => simp [intOf]; omega
  ·have hie : i = n := by omega
   subst hie
   have h1 := HO.out
   rw [List.take_of_length_le (by rw [HN.out]; exact Nat.le_refl _)] at h1
   have HI := hid (show IdxIs l name (-1) from .inl ⟨rfl, h1⟩)
   clear h1
   go_wp2
   go_ret
   exact ⟨_, rfl, HI.out, HB.out⟩

set_option maxHeartbeats 1000000 in
theorem cAttrAt (a : Option Addr) (cap : Nat) (l : List At) (name : ByteArray) (w : World) (hR : AtRow w a l) (hz : AtSz 1048576 l) (hn : l.length <= 1048576) (hm : name.size <= 1048576) :
  Calls Tryz.prog 107 #[.slice a l.length cap, .string name] w fun e w' => ∃ r : Int, e = .returned (.int .i64 r) /\ IdxIs l name r /\ Below w.heap.size w w' := by
 have hmf : ∀ (fn : Fn) (first cap : Array Value) (w : World), (Instr.makeFunc fn first cap).run Tryz.prog w = .ok (.func fn first cap) w := fun _ _ _ _ => rfl
 have HB0 := hid ((Below.refl w.heap.size w).alloc (Nat.le_refl _) (.cells #[.string name] 9))
 have C := hid (cIndexFunc a cap l name w.heap.size 0 (w.alloc (.cells #[.string name] 9)) (hR.below HB0.out) hz hn hm (by simp) (by simp [go_sem]))
 clear hR hz
 generalize l.length = n at *
 go_enter Tryz.func107, Tryz.ntmps107
 go_wp2_with fail
 refine C.out.mono ?_
 rintro e w1 ⟨r, rfl, hr, hb1⟩
 have HI := hid hr
 have HB1 := hid (bb HB0.out hb1)
 clear hr hb1
 go_wp2
 go_ret
 exact ⟨_, rfl, HI.out, HB1.out⟩

set_option maxHeartbeats 1000000 in
theorem cValueInI (a : Option Addr) (cap : Nat) (l : List At) (name : ByteArray) (w : World) (hR : AtRow w a l) (hz : AtSz 1048576 l) (hn : l.length <= 1048576) (hm : name.size <= 1048576) :
  Calls Tryz.prog 56 #[.slice a l.length cap, .string name] w fun e w' => e = .returned (.tuple #[.string ((valF l name).getD ByteArray.empty), .bool (valF l name).isSome]) /\ Below w.heap.size w w' := by
 have C := hid (cAttrAt a cap l name w hR hz hn hm)
 have HR := hid hR
 have HZ := hid hz
 obtain ⟨V, hV⟩ : ∃ V, valF l name = V := ⟨_, rfl⟩
 have HV := hid hV
 rw [hV]
 clear hR hz hV
 obtain ⟨n, hnn⟩ : ∃ n, l.length = n := ⟨_, rfl⟩
 have HN := hid hnn
 rw [hnn] at hn C ⊢
 clear hnn
 go_enter Tryz.func56, Tryz.ntmps56
 go_wp2_with fail
 refine C.out.mono ?_
 rintro e w1 ⟨r, rfl, hr, hb1⟩
 have HB1 := hid hb1
 rcases hr with ⟨rfl, h1⟩ | ⟨i, hi, rfl, hq, h1⟩
 ·have hv := valF_none h1
  rw [HV.out] at hv
  have HW := hid hv
  clear h1 hv hb1 C
  go_wp2
  go_ret2
  exact ⟨by rw [HW.out]; rfl, HB1.out⟩
 ·have hv := valF_at hi h1 hq
  rw [HV.out] at hv
  have HW := hid hv
  obtain ⟨b, o, rfl, hb, c1, c2⟩ := HR.out.below HB1.out i hi
  have hin : (i : Int) < (n : Int) := by have := HN.out; omega
  have z2 := (HZ.out _ (List.getElem_mem hi)).2
  have CC := fun w => c_strings_Clone l[i].value w z2
  clear h1 hv hb1 C hq
  generalize l[i].name = x at *
  generalize l[i].value = y at *
  go_wp2_with fail
  refine (CC _).mono ?_
  rintro e w2 ⟨rfl, hb2⟩
  have HB2 := hid (bb HB1.out hb2)
  clear hb2 CC
  go_wp2
  go_ret2
  exact ⟨by rw [HW.out]; rfl, HB2.out⟩

end Go.Proofs.YtoioiddjbanahaaGreatDoor

namespace Go.Proofs.YtoioiddjbanahaaGreatDoor

open Go.RowKit

theorem cValueOkI (s : ByteArray) (w : World) (hs : s.size <= 1048576) :
  Calls Tryz.prog 145 #[.string s] w fun e w' => e = .returned (.bool (decide (s.size <= 60) && plainL s.data.toList)) /\ w' = w := by
 have CP := fun w => c_impl_PlainOk s w (by unfold maxLen; omega)
 by_cases q : s.size <= 60
 ·rw [decide_eq_true q, Bool.true_and]
  have hd : decide ((s.size : Int) <= 60) = true := by simp; omega
  go_enter Tryz.func145, Tryz.ntmps145
  go_wp2_with fail
  refine (CP _).mono ?_
  rintro e w1 ⟨rfl, rfl⟩
  go_wp2_with fail
  go_ret
  exact ⟨rfl, rfl⟩
 ·rw [decide_eq_false q, Bool.false_and]
  have hd : decide ((s.size : Int) <= 60) = false := by simp; omega
  clear CP
  go_enter Tryz.func145, Tryz.ntmps145
  go_wp2_with fail
  go_ret
  exact ⟨rfl, rfl⟩

theorem box2c {w : World} {g : Nat} {x y : Value} {T : TypeId} (h : w.heap[g]? = some (.cells #[x, y] T (0, 0))) : w.cell? ⟨g, 0, none⟩ = some x /\ w.cell? ⟨g, 1, none⟩ = some y :=
 ⟨by rw [Lib.cell_of_heap h]; rfl, by rw [Lib.cell_of_heap h]; rfl⟩

set_option maxRecDepth 8000 in
set_option maxHeartbeats 4000000 in
theorem cAttrsOkI (a : Option Addr) (cap : Nat) (l : List At) (w : World) (hR : AtRow w a l) (hz : AtSz 1048576 l) (hn : l.length <= 1048576) :
  Calls Tryz.prog 144 #[.slice a l.length cap] w fun e w' => e = .returned (.bool (attrsB l)) /\ Below w.heap.size w w' := by
 obtain ⟨V, hV⟩ : ∃ V, attrsB l = V := ⟨_, rfl⟩
 have HV := hid hV
 rw [hV]
 have HF : Hid (¬ AttrsOk l -> V = false) := fun h => by rw [<- HV.out]; exact attrsB_f h
 have HT : Hid (AttrsOk l -> V = true) := fun h => by rw [<- HV.out]; exact attrsB_t h
 clear hV HV
 have HR := hid hR
 have HZ := hid hz
 have HC := hid (fun (w : World) (hR : AtRow w a l) name (hm : name.size <= 1048576) => cAttrAt a cap l name w hR hz hn hm)
 clear hR hz
 obtain ⟨n, hnn⟩ : ∃ n, l.length = n := ⟨_, rfl⟩
 have HN := hid hnn
 rw [hnn] at hn HC ⊢
 clear hnn
 by_cases h6 : n <= 6
 ·have d6 : decide ((6 : Int) < (n : Int)) = false := by simp; omega
  go_enter Tryz.func144, Tryz.ntmps144
  go_wp2
  go_loopw [10] (fun k wr => ∃ i : Nat, k = .int .i64 (i : Int) /\ i <= n /\ Hid (AtsOk i l) /\ Hid (Below w.heap.size w wr)) (fun k _ => n - (intOf k).toNat)
  case atStart => exact ⟨0, rfl, Nat.zero_le _, ⟨fun j _ h => by omega, fun i j _ _ h => by omega⟩, Below.refl _ _⟩
  case round =>
   obtain ⟨i, rfl, hi, HA, HB⟩ := hrel
   by_cases hlt : i < n
   ·have his : i < l.length := by rw [HN.out]; exact hlt
    have hin : (i : Int) < (n : Int) := by omega
    obtain ⟨b, o, rfl, hb, c1, c2⟩ := HR.out.below HB.out i his
    obtain ⟨z1, z2⟩ := HZ.out _ (List.getElem_mem his)
    have CN := hid (fun w => c_impl_NameOk l[i].name w z1)
    have CV := hid (fun w => cValueOkI l[i].value w z2)
    have M := hid (heap_alloc_new wr (.cells #[.string l[i].name, .string l[i].value] 67))
    have HB0 := hid (HB.out.alloc HB.out.size (.cells #[.string l[i].name, .string l[i].value] 67))
    cases q1 : nameL l[i].name.data.toList
    ·have HW := hid (HF.out (fun h => by have := (h.2.1 i his (by rw [HN.out]; exact hlt)).1; rw [q1] at this; cases this))
     rw [q1] at CN
     generalize l[i].name = x at *
     generalize l[i].value = y at *
     clear CV HC
     go_wp2_with fail
     refine (CN.out _).mono ?_
     rintro e w1 ⟨rfl, hb1⟩
     have HB1 := hid (bb HB0.out hb1)
     clear hb1 c1 c2 CN
     go_wp2_with fail
     go_ret
     exact ⟨by rw [HW.out]; rfl, HB1.out⟩
    ·cases q2 : (decide (l[i].value.size <= 60) && plainL l[i].value.data.toList)
     ·have HW := hid (HF.out (fun h => by
       obtain ⟨_, k1, k2⟩ := h.2.1 i his (by rw [HN.out]; exact hlt)
       rw [k1, decide_eq_true k2] at q2
       cases q2))
      rw [q1] at CN
      rw [q2] at CV
      generalize l[i].name = x at *
      generalize l[i].value = y at *
      clear HC
      go_wp2_with fail
      refine (CN.out _).mono ?_
      rintro e w1 ⟨rfl, hb1⟩
      have HB1 := hid (bb HB0.out hb1)
      obtain ⟨x0, x1⟩ := box2c (blk_below M.out hb1)
      clear hb1 c1 c2 CN
      go_wp2_with fail
      refine (CV.out _).mono ?_
      rintro e w2 ⟨rfl, rfl⟩
      go_wp2_with fail
      go_ret
      exact ⟨by rw [HW.out]; rfl, HB1.out⟩
     ·have HOK := hid (show atOk l[i] from ⟨q1, by
       simp only [Bool.and_eq_true, decide_eq_true_eq] at q2
       exact ⟨q2.2, q2.1⟩⟩)
      rw [q1] at CN
      rw [q2] at CV
      obtain ⟨x, hx⟩ : ∃ x, l[i].name = x := ⟨_, rfl⟩
      obtain ⟨y, hy⟩ : ∃ y, l[i].value = y := ⟨_, rfl⟩
      have HX := hid hx
      rw [hx] at c1 CN z1 M HB0
      rw [hy] at c2 CV z2 M HB0
      have HCx := hid (fun w1 (h : Below w.heap.size w w1) => HC.out w1 (HR.out.below h) x z1)
      clear hx hy q1 q2 HC
      go_wp2_with fail
      refine (CN.out _).mono ?_
      rintro e w1 ⟨rfl, hb1⟩
      have HB1 := hid (bb HB0.out hb1)
      obtain ⟨x0, x1⟩ := box2c (blk_below M.out hb1)
      clear hb1 c1 c2 CN
      go_wp2_with fail
      refine (CV.out _).mono ?_
      rintro e w2 ⟨rfl, rfl⟩
      go_wp2_with fail
      refine (HCx.out _ HB1.out).mono ?_
      rintro e w3 ⟨r, rfl, hr, hb3⟩
      have HB3 := hid (bb HB1.out hb3)
      clear hb3 x0 x1
      rcases hr with ⟨_, h1⟩ | ⟨j, hj, rfl, hq, h1⟩
      ·exact absurd HX.out (h1 _ (List.getElem_mem his))
      ·have hji : j <= i := by
        rcases Nat.lt_or_ge i j with h' | h'
        ·exact absurd HX.out (h1 l[i] (List.mem_take_iff_getElem.2 ⟨i, by omega, rfl⟩))
        ·exact h'
       rcases Nat.lt_or_eq_of_le hji with h' | rfl
       ·have HW := hid (HF.out (fun h => h.2.2 i j his h' (by rw [HN.out]; exact hlt) (by rw [hq, HX.out])))
        have hd : ((j : Int) == (i : Int)) = false := by simp; omega
        clear hq h1 hj hji h'
        go_wp2_with fail
        go_ret
        exact ⟨by rw [HW.out]; rfl, HB3.out⟩
       ·have HA2 := hid (HA.out.next his HOK.out (fun m hm => by
         intro e
         exact h1 l[m] (List.mem_take_iff_getElem.2 ⟨m, by omega, rfl⟩) (e.trans HX.out)))
        clear hq h1 hj hji
        go_wp2_with fail
        go_roundw
        case rel => exact ⟨j + 1, by go_num, by omega, HA2.out, HB3.out⟩
        case measure => simp [intOf]; omega
   ·have hie : i = n := by omega
    subst hie
    have HW := hid (HT.out ⟨by rw [HN.out]; exact h6, by rw [HN.out]; exact HA.out⟩)
    go_wp2_with fail
    go_ret
    exact ⟨by rw [HW.out]; rfl, HB.out⟩
 ·have d6 : decide ((6 : Int) < (n : Int)) = true := by simp; omega
  have HW := hid (HF.out (fun h => h6 (by have := h.1; rw [HN.out] at this; exact this)))
  go_enter Tryz.func144, Tryz.ntmps144
  go_wp2
  go_ret
  exact ⟨by rw [HW.out]; rfl, Below.refl _ _⟩

set_option maxRecDepth 8000 in
set_option maxHeartbeats 2000000 in
theorem cTokenOkI (t : Tk) (a : Option Addr) (cap : Nat) (w : World) (hR : AtRow w a t.attrs) (hz : TkSz 1048576 t) :
  Calls Tryz.prog 98 #[tkV t a cap] w fun e w' => e = .returned (.bool (tokB t)) /\ Below w.heap.size w w' := by
 obtain ⟨k, name, l, text⟩ := t
 obtain ⟨h1, h2, h3, h4⟩ := hz
 simp only at hR h1 h2 h3 h4
 have HB0 := hid ((Below.refl w.heap.size w).alloc (Nat.le_refl _) (.cells #[.int .i64 k, .string name, .slice a l.length cap, .string text] 150))
 have HR := hid (hR.below HB0.out)
 have CN := fun w => c_impl_NameOk name w h1
 have CA := fun (w : World) (hR : AtRow w a l) => cAttrsOkI a cap l w hR h3 h2
 have CX := fun w => cValueOkI text w h4
 have E1 := empty_is name
 have E2 := empty_is text
 obtain ⟨V, hV⟩ : ∃ V, tokB ⟨k, name, l, text⟩ = V := ⟨_, rfl⟩
 have HV := hid hV
 rw [hV]
 clear hV hR h3
 simp only [tkV]
 obtain ⟨n, hn⟩ : ∃ n, l.length = n := ⟨_, rfl⟩
 have HN := hid hn
 rw [hn] at CA HB0 HR h2 ⊢
 clear hn
 have E3 : ((n : Int) == 0) = decide (n = 0) := by
  by_cases h : n = 0
  ·subst h; rfl
  ·rw [decide_eq_false h]; simp; omega
 by_cases k1 : k = 1
 ·subst k1
  have hv := HV.out
  unfold tokB at hv
  simp only [if_true] at hv
  cases q1 : nameL name.data.toList
  ·rw [q1] at hv CN
   have HW := hid (show V = false from hv.symm)
   clear hv CA CX
   go_enter Tryz.func98, Tryz.ntmps98
   go_wp2_with fail
   refine (CN _).mono ?_
   rintro e w1 ⟨rfl, hb1⟩
   have HB1 := hid (bb HB0.out hb1)
   go_wp2_with fail
   go_ret
   exact ⟨by rw [HW.out]; rfl, HB1.out⟩
  ·rw [q1, Bool.true_and] at hv
   rw [q1] at CN
   cases q2 : attrsB l
   ·rw [q2] at hv CA
    have HW := hid (show V = false from hv.symm)
    clear hv CX
    go_enter Tryz.func98, Tryz.ntmps98
    go_wp2_with fail
    refine (CN _).mono ?_
    rintro e w1 ⟨rfl, hb1⟩
    obtain ⟨hc, hf⟩ := bcell hb1
    have HB1 := hid (bb HB0.out hb1)
    have HR1 := hid (HR.out.below hb1)
    go_wp2_with fail
    refine (CA _ HR1.out).mono ?_
    rintro e w2 ⟨rfl, hb2⟩
    have HB2 := hid (bb HB1.out hb2)
    go_wp2_with fail
    go_ret
    exact ⟨by rw [HW.out]; rfl, HB2.out⟩
   ·rw [q2, Bool.true_and] at hv
    rw [q2] at CA
    have HW := hid hv
    rw [hv] at E2
    clear hv CX
    go_enter Tryz.func98, Tryz.ntmps98
    go_wp2_with fail
    refine (CN _).mono ?_
    rintro e w1 ⟨rfl, hb1⟩
    obtain ⟨hc, hf⟩ := bcell hb1
    have HB1 := hid (bb HB0.out hb1)
    have HR1 := hid (HR.out.below hb1)
    have hz1 : w.heap.size < w1.heap.size := by have := hb1.size; simp at this; omega
    go_wp2_with fail
    refine (CA _ HR1.out).mono ?_
    rintro e w2 ⟨rfl, hb2⟩
    obtain ⟨hc2, hf2⟩ := bcell hb2
    have HB2 := hid (bb HB1.out hb2)
    go_wp2_with fail
    go_ret
    exact ⟨rfl, HB2.out⟩
 ·by_cases k2 : k = 2
  ·subst k2
   have hv := HV.out
   unfold tokB at hv
   simp only [show ¬ ((2 : Int) = 1) by decide, if_false, if_true] at hv
   rw [HN.out] at hv
   cases q1 : nameL name.data.toList
   ·rw [q1] at hv CN
    have HW := hid (show V = false from hv.symm)
    clear hv CA CX
    go_enter Tryz.func98, Tryz.ntmps98
    go_wp2_with fail
    refine (CN _).mono ?_
    rintro e w1 ⟨rfl, hb1⟩
    have HB1 := hid (bb HB0.out hb1)
    go_wp2_with fail
    go_ret
    exact ⟨by rw [HW.out]; rfl, HB1.out⟩
   ·rw [q1, Bool.true_and] at hv
    rw [q1] at CN
    cases q2 : decide (n = 0)
    ·rw [q2] at hv E3
     have HW := hid (show V = false from hv.symm)
     clear hv CX CA
     go_enter Tryz.func98, Tryz.ntmps98
     go_wp2_with fail
     refine (CN _).mono ?_
     rintro e w1 ⟨rfl, hb1⟩
     obtain ⟨hc, hf⟩ := bcell hb1
     have HB1 := hid (bb HB0.out hb1)
     go_wp2_with fail
     go_ret
     exact ⟨by rw [HW.out]; rfl, HB1.out⟩
    ·rw [q2, Bool.true_and] at hv
     rw [q2] at E3
     rw [hv] at E2
     clear hv CX CA
     go_enter Tryz.func98, Tryz.ntmps98
     go_wp2_with fail
     refine (CN _).mono ?_
     rintro e w1 ⟨rfl, hb1⟩
     obtain ⟨hc, hf⟩ := bcell hb1
     have HB1 := hid (bb HB0.out hb1)
     go_wp2_with fail
     go_ret
     exact ⟨rfl, HB1.out⟩
  ·by_cases k3 : k = 3
   ·subst k3
    have hv := HV.out
    unfold tokB at hv
    simp only [show ¬ ((3 : Int) = 1) by decide, show ¬ ((3 : Int) = 2) by decide, if_false, if_true] at hv
    rw [HN.out] at hv
    cases q1 : decide (name.size = 0)
    ·rw [q1] at hv E1
     have HW := hid (show V = false from hv.symm)
     clear hv CA CX CN
     go_enter Tryz.func98, Tryz.ntmps98
     go_wp2_with fail
     go_ret
     exact ⟨by rw [HW.out]; rfl, HB0.out⟩
    ·rw [q1, Bool.true_and] at hv
     rw [q1] at E1
     cases q2 : decide (n = 0)
     ·rw [q2] at hv E3
      have HW := hid (show V = false from hv.symm)
      clear hv CX CA CN
      go_enter Tryz.func98, Tryz.ntmps98
      go_wp2_with fail
      go_ret
      exact ⟨by rw [HW.out]; rfl, HB0.out⟩
     ·rw [q2, Bool.true_and] at hv
      rw [q2] at E3
      cases q3 : decide (text.size = 0)
      ·rw [q3] at E2
       have q3' : ¬ text.size = 0 := of_decide_eq_false q3
       have e1 : textB text = (decide (text.size <= 60) && plainL text.data.toList) := by
        unfold textB
        rw [Bool.and_comm]
        congr 1
        rw [decide_eq_decide]
        omega
       rw [e1] at hv
       rw [hv] at CX
       clear hv CA CN e1
       go_enter Tryz.func98, Tryz.ntmps98
       go_wp2_with fail
       refine (CX _).mono ?_
       rintro e w1 ⟨rfl, rfl⟩
       go_wp2_with fail
       go_ret
       exact ⟨rfl, HB0.out⟩
      ·rw [q3] at E2
       have q3' : text.size = 0 := of_decide_eq_true q3
       have e1 : textB text = false := by
        unfold textB
        rw [decide_eq_false (by omega), Bool.and_false]
       rw [e1] at hv
       have HW := hid hv
       clear hv CA CN CX e1
       go_enter Tryz.func98, Tryz.ntmps98
       go_wp2_with fail
       go_ret
       exact ⟨by rw [<- HW.out]; rfl, HB0.out⟩
   ·have hv := HV.out
    unfold tokB at hv
    simp only [k1, k2, k3, if_false] at hv
    have HW := hid (show V = false from hv.symm)
    have d1 : (k == 1) = false := by simpa using k1
    have d2 : (k == 2) = false := by simpa using k2
    have d3 : (k == 3) = false := by simpa using k3
    clear hv CA CX CN
    go_enter Tryz.func98, Tryz.ntmps98
    go_wp2_with fail
    go_ret
    exact ⟨by rw [HW.out]; rfl, HB0.out⟩

end Go.Proofs.YtoioiddjbanahaaGreatDoor
