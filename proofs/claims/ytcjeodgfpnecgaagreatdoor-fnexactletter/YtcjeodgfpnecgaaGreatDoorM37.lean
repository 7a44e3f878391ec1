/- Contracts of Branch, Grafted and Wrapped of the program. The program's Letter. The program's firstOf: a letter with nothing in it yet. -/
import Derived.Test.YtcjeodgfpnecgaaGreatDoorM36
import Derived.Test.YtcjeodgfpnecgaaGreatDoorM33
import Derived.Test.YtcjeodgfpnecgaaGreatDoorM26
import Derived.Maps.AppendAt
namespace Go.Proofs.YtcjeodgfpnecgaaGreatDoor
open Go.RowKit
set_option linter.unusedVariables false
set_option linter.unusedSimpArgs false

theorem ans_nil {w w1 : World} (hb : Below w.heap.size w w1) : TreeAns w [] false (.returned (.tuple #[.slice none 0 0, .bool false])) w1 :=
  ⟨_, rfl, ⟨[], none, 0, rfl, Nd.Row.start0 _ _, rfl⟩, hb⟩

theorem row_adr {w : World} {a : Option Addr} {ts : List Tk} (h : TkRow w a ts) (h0 : 0 < ts.length) : ∃ b o, a = some ⟨b, o, none⟩ := by
  obtain ⟨b, o, _, _, e, _⟩ := h 0 h0
  exact ⟨b, o, e⟩

/-- Refused. -/
theorem graft_no {ts br : List Tk} {x : Int} (h : graftB ts br x = false) : graftL ts br x = asIs ts := by
  unfold graftL asIs
  rw [h]
  rfl

set_option maxRecDepth 4000 in
set_option maxHeartbeats 4000000 in
theorem cGraftedI (a a2 : Option Addr) (cap cap2 : Nat) (ts br : List Tk) (x : Int) (w : World) (hR : TkRow w a ts) (hR2 : TkRow w a2 br) (hc : ts.length ≤ cap) (hn : ts.length ≤ 1048576) (hn2 : br.length ≤ 1048576) (hz : TksSz 1048576 ts) (hz2 : TksSz 1048576 br) :
    Calls Tryz.prog 20 #[.slice a ts.length cap, .int .i64 x, .slice a2 br.length cap2] w (TreeAns w (graftL ts br x) (graftB ts br x)) := by
  have C := hid (g_elemThere a cap ts x w hR hn hz)
  have CA := hid (fun wx (h : TkRow wx a ts) => cAsIs a cap ts wx h hn hz)
  have CT := hid (fun wx (h : TkRow wx a2 br) => cTreeOkI a2 cap2 br wx h hn2 hz2)
  have HR := hid hR
  have HR2 := hid hR2
  cases hE : elemB ts x with
  | false =>
    have HV := hid (show graftB ts br x = false by unfold graftB; rw [hE]; rfl)
    rw [graft_no HV.out, HV.out]
    rw [hE] at C
    clear hE HV hR hR2 hz hz2 hc CT
    generalize asIs ts = R at *
    generalize ts.length = n at *
    generalize br.length = n2 at *
    go_enter Tryz.func20, Tryz.ntmps20
    go_wp2_with fail
    refine C.out.mono ?_
    rintro e w1 ⟨rfl, hb1⟩
    have HB1 := hid hb1
    have CA1 := hid (CA.out _ (HR.out.below hb1))
    clear hb1 C CA
    go_wp2_with fail
    refine CA1.out.mono ?_
    rintro e w3 ⟨v3, rfl, hr3⟩
    have HR3 := hid (RowOf.later HB1.out hr3)
    clear hr3
    go_wp2_with fail
    go_ret2
    exact ⟨_, rfl, HR3.out⟩
  | true =>
    rw [hE] at C
    cases hB : treeB br with
    | false =>
      have HV := hid (show graftB ts br x = false by unfold graftB; rw [hB, Bool.false_and, Bool.and_false])
      rw [graft_no HV.out, HV.out]
      rw [hB] at CT
      clear hE HV hR hR2 hz hz2 hc hB
      generalize asIs ts = R at *
      generalize ts.length = n at *
      generalize br.length = n2 at *
      go_enter Tryz.func20, Tryz.ntmps20
      go_wp2_with fail
      refine C.out.mono ?_
      rintro e w1 ⟨rfl, hb1⟩
      have HB1 := hid hb1
      have CT1 := hid (CT.out _ (HR2.out.below hb1))
      clear hb1 C CT
      go_wp2_with fail
      refine CT1.out.mono ?_
      rintro e w2 ⟨rfl, hb2⟩
      have HB2 := hid (bb HB1.out hb2)
      have CA1 := hid (CA.out _ (HR.out.below HB2.out))
      clear hb2 CA CT1
      go_wp2_with fail
      refine CA1.out.mono ?_
      rintro e w3 ⟨v3, rfl, hr3⟩
      have HR3 := hid (RowOf.later HB2.out hr3)
      clear hr3
      go_wp2_with fail
      go_ret2
      exact ⟨_, rfl, HR3.out⟩
    | true =>
      rw [hB] at CT
      have hH : hasB ts x = true := by
        have h := hE
        unfold elemB at h
        rw [Bool.and_eq_true] at h
        exact h.1
      obtain ⟨hT, k, rfl, hk⟩ := elemB_t hE
      have hTB : TreeP br := by unfold treeB at hB; simpa using hB
      have h50 : ts.length ≤ 50 := hT.2.1
      have hb50 : br.length ≤ 50 := hTB.2.1
      have hb0 : 0 < br.length := hTB.1
      have hbb : (0 : Int) < (br.length : Int) := by omega
      obtain ⟨b, o, rfl⟩ := row_adr hR (by omega)
      have hle := endN_le hk
      obtain ⟨t0, ht0, hset⟩ := graft_mv hTB (endN ts k) (k : Int)
      have HT0 := hid ht0
      have HSET := hid (put_mv (ts := ts) hle.2 hset)
      have hEI : endI ts (k : Int) = (endN ts k : Int) := by unfold endI; rw [hH]; rfl
      have CE := hid (fun wx (h : TkRow wx (some ⟨b, o, none⟩) ts) => cEndOfI (some ⟨b, o, none⟩) cap ts (k : Int) wx h hn hz)
      rw [hEI] at CE
      have CM := hid (fun wx (h : TkRow wx a2 br) => cMoved a2 cap2 br 0 (endN ts k : Int) wx h hn2 hz2 (fun u hu _ => by have := (KSm.tree hTB) u hu; omega))
      have hpz := put_sz (e := endN ts k) (par := (k : Int)) hz hz2
      have hpl := putL_len (parent := (k : Int)) (br := br) hle.2
      have CW := hid (fun (w0 wx : World) (v : Value) (L2 : List Tk) (h2 : RowOf w0 wx v L2) (h : TkRow wx (some ⟨b, o, none⟩) ts) (hl : L2.length ≤ 1000) => cWith w0 b o cap ts (endN ts k) v L2 wx h2 h hc hle.2 (by omega) hl hz (KSm.tree hT))
      have CX := hid (fun (w0 wx : World) (v : Value) (h2 : RowOf w0 wx v (putL ts (endN ts k) (k : Int) br)) (h : TkRow wx (some ⟨b, o, none⟩) ts) => cChanged w0 (some ⟨b, o, none⟩) cap ts v _ wx h2 h hn hz (by rw [hpl]; omega) hpz)
      have HG := hid (show graftB ts br (k : Int) = treeB (putL ts (endN ts k) (k : Int) br) by unfold graftB; rw [hE, hB]; rfl)
      have HG2 := hid (show graftL ts br (k : Int) = if treeB (putL ts (endN ts k) (k : Int) br) then putL ts (endN ts k) (k : Int) br else asIs ts by
        unfold graftL asIs
        rw [HG.out, treeB_t hT]
        rfl)
      rw [HG2.out, HG.out]
      have HML := hid (show ((mvL 0 (endN ts k : Int) br).set 0 (shK (k : Int) t0)).length = br.length by rw [List.length_set, mvL_len])
      have HMS := hid (mvL_len 0 (endN ts k : Int) br)
      clear hE hB hH hT hTB hR hR2 hz hz2 ht0 hset hEI hpz hpl HG HG2 CA
      generalize treeB (putL ts (endN ts k) (k : Int) br) = B at *
      generalize (if B = true then putL ts (endN ts k) (k : Int) br else asIs ts) = R at *
      generalize putL ts (endN ts k) (k : Int) br = P at *
      generalize mvL 0 (endN ts k : Int) br = L at *
      obtain ⟨E, hEE⟩ : ∃ E, endN ts k = E := ⟨_, rfl⟩
      rw [hEE] at CE hle CM CW HSET
      clear hEE
      have hk50 : k < 50 := by omega
      have hE50 : E ≤ 50 := by omega
      obtain ⟨n2, hn2e⟩ : ∃ n2, br.length = n2 := ⟨_, rfl⟩
      rw [hn2e] at CT CM HML HMS HSET hbb hb50 ⊢
      clear hle hn2 hn2e hb0
      generalize ts.length = n at *
      go_enter Tryz.func20, Tryz.ntmps20
      go_wp2_with fail
      refine C.out.mono ?_
      rintro e w1 ⟨rfl, hb1⟩
      have HB1 := hid hb1
      have CT1 := hid (CT.out _ (HR2.out.below hb1))
      clear hb1 C CT
      go_wp2_with fail
      refine CT1.out.mono ?_
      rintro e w2 ⟨rfl, hb2⟩
      have HB2 := hid (bb HB1.out hb2)
      clear hb2 CT1 HB1
      go_wp2_with fail
      refine (CE.out _ (HR.out.below HB2.out)).mono ?_
      rintro e w3 ⟨rfl, hb3⟩
      have HB3 := hid (bb HB2.out hb3)
      clear hb3 CE HB2
      go_wp2_with fail
      refine (CM.out _ (HR2.out.below HB3.out)).mono ?_
      rintro e w4 ⟨c4, rfl, hr4⟩
      have HB4 := hid hr4.bel
      obtain ⟨g, c, ev, hg, ⟨aa, ca, q0, q1, q2, q3⟩, hfz, hks, _⟩ := hr4.put HT0.out
      obtain ⟨rfl, rfl⟩ : w3.heap.size = g ∧ c4 = c := by cases ev; exact ⟨rfl, rfl⟩
      have HKS := hid (RowOf.later HB3.out (hks (k : Int)))
      have f0 := hfz (0 * 4)
      rw [Nat.zero_mul] at q0 f0 HKS
      have HR5 := hid (HR.out.below HKS.out.bel)
      clear hks hr4 CM q1 q2 q3 ev hfz HB3 HB4
      go_wp2_with fail
      refine (CW.out _ _ _ _ HKS.out HR5.out (by rw [HML.out]; omega)).mono ?_
      rintro e w6 ⟨v6, rfl, hr6⟩
      have HR6 := hid hr6
      rw [HML.out, HSET.out] at HR6
      have CX6 := hid (CX.out _ _ _ HR6.out (HR.out.below HR6.out.bel))
      clear hr6 CW CX HR5 HKS
      go_wp2_with fail
      refine CX6.out.mono ?_
      rintro e w7 ⟨v7, rfl, hr7⟩
      have HR7 := hid hr7
      clear hr7 CX6
      go_wp2_with fail
      go_ret2
      exact ⟨_, rfl, HR7.out⟩

/-- Refused. -/
theorem wrap_no {ts : List Tk} {x : Int} {name : ByteArray} (h : wrapB ts x name = false) : wrapT ts x name = asIs ts := by
  unfold wrapT asIs
  rw [h]
  rfl

theorem elemB_zero {k : Nat} (h : ¬ (k : Int) = 0) : decide (1 ≤ (k : Int)) = true := by simp; omega

/-- The one that wraps, as a row of one's own. -/
theorem wrap_own {w w1 : World} (hb : Below w.heap.size w w1) (K : Int) (name : ByteArray) : RowOf w (w1.alloc (.cells #[.int .i64 K, .string name, .slice none 0 0, .string ⟨#[]⟩] 44)) (.slice (some ⟨w1.heap.size, 0, none⟩) 1 1) [⟨K, name, [], ⟨#[]⟩⟩] :=
  ⟨⟨[⟨⟨K, name, [], ⟨#[]⟩⟩, none, 0⟩], _, 1, rfl, Nd.Row.one (e := ⟨⟨K, name, [], ⟨#[]⟩⟩, none, 0⟩) hb.size (heap_alloc_new _ _) (fun h => absurd h (Nat.not_lt_zero _)) (fun g o h => absurd h (Nat.not_lt_zero _)), rfl⟩, hb.alloc hb.size _⟩

end Go.Proofs.YtcjeodgfpnecgaaGreatDoor

namespace Go.Proofs.YtcjeodgfpnecgaaGreatDoor
open Go.RowKit
set_option linter.unusedVariables false
set_option linter.unusedSimpArgs false

theorem let_beq (a b : ByteArray) : (a.toList == b.toList) = decide (a = b) := by
  rw [ByteArray.toList_eq, ByteArray.toList_eq]
  by_cases h : a = b
  · subst h; simp
  · have : ¬ a.data.toList = b.data.toList := fun e => h (ByteArray.ext (Array.toList_inj.1 e))
    rw [decide_eq_false h, beq_eq_false_iff_ne]
    exact this

/-- What becomes of an identifier, as a number. -/
noncomputable def useI (id cid : ByteArray) : Int := if id.size = 0 then 1 else if (idOk id && !decide (id = cid)) = true then 2 else 0

set_option maxHeartbeats 2000000 in
theorem cIdUse (id cid : ByteArray) (w : World) (hs : id.size ≤ 1048576) :
    Calls Tryz.prog 39 #[.string id, .string cid] w fun e w' => e = .returned (.int .i64 (useI id cid)) ∧ w' = w := by
  have C := hid (fun wx => cIdOk id wx hs)
  have E := empty_is id
  unfold useI
  obtain ⟨O, hO⟩ : ∃ O, idOk id = O := ⟨_, rfl⟩
  rw [hO] at C ⊢
  obtain ⟨P, hP⟩ : ∃ P, decide (id = cid) = P := ⟨_, rfl⟩
  rw [hP]
  rw [← let_beq] at hP
  by_cases h0 : id.size = 0
  · rw [decide_eq_true h0] at E
    rw [if_pos h0]
    clear h0 hP hO
    go_enter Tryz.func39, Tryz.ntmps39
    go_wp2_with fail
    go_ret
    exact ⟨rfl, rfl⟩
  · rw [decide_eq_false h0] at E
    rw [if_neg h0]
    clear h0 hO
    cases O with
    | false =>
      clear hP
      go_enter Tryz.func39, Tryz.ntmps39
      go_wp2_with fail
      refine (C.out _).mono ?_
      rintro e w1 ⟨rfl, hw1⟩
      obtain rfl := hw1.symm
      go_wp2_with fail
      go_ret
      exact ⟨rfl, rfl⟩
    | true =>
      cases P with
      | false =>
        go_enter Tryz.func39, Tryz.ntmps39
        go_wp2_with fail
        refine (C.out _).mono ?_
        rintro e w1 ⟨rfl, hw1⟩
        obtain rfl := hw1.symm
        go_wp2_with fail
        go_ret
        exact ⟨rfl, rfl⟩
      | true =>
        go_enter Tryz.func39, Tryz.ntmps39
        go_wp2_with fail
        refine (C.out _).mono ?_
        rintro e w1 ⟨rfl, hw1⟩
        obtain rfl := hw1.symm
        go_wp2_with fail
        go_ret
        exact ⟨rfl, rfl⟩

set_option maxHeartbeats 2000000 in
theorem cDeclL (w : World) :
    Calls Tryz.prog 38 #[.string ⟨#[108]⟩, .string claimS] w fun e w' => e = .returned (.agg #[.string nsLS, .string claimS]) ∧ Below w.heap.size w w' := by
  have HB0 := hid ((Below.refl w.heap.size w).alloc (Nat.le_refl _) (.cells #[.string ⟨#[]⟩, .string ⟨#[]⟩] 58))
  have M1 := hid (heap_alloc_new w (.cells #[.string ⟨#[]⟩, .string ⟨#[]⟩] 58))
  have E : (⟨#[108]⟩ : ByteArray).toList.isEmpty = false := by rw [empty_is]; rfl
  have C := hid q_itself
  generalize claimS = m
  have e1 : (⟨#[110, 115]⟩ : ByteArray) ++ ⟨#[58]⟩ = ⟨#[110, 115, 58]⟩ := rfl
  have e2 : (⟨#[110, 115, 58]⟩ : ByteArray) ++ ⟨#[108]⟩ = nsLS := rfl
  have z1 : (⟨#[110, 115]⟩ : ByteArray).size + (⟨#[58]⟩ : ByteArray).size ≤ 9223372036854775807 := by decide
  have z2 : (⟨#[110, 115, 58]⟩ : ByteArray).size + (⟨#[108]⟩ : ByteArray).size ≤ 9223372036854775807 := by decide
  go_enter Tryz.func38, Tryz.ntmps38
  go_wp2_with fail
  refine (C.out _).mono ?_
  rintro e w1 ⟨rfl, hb1⟩
  have HB1 := hid (bb HB0.out hb1)
  obtain ⟨⟨y0, y1⟩, f0, f1⟩ := q_box2 (blk_below M1.out hb1)
  clear hb1
  go_wp2_with fail
  refine bodyPost_ret (v := .agg #[.string nsLS, .string m]) (by simp [results, Tryz.results38, go_sem, y0, y1]) rfl ⟨rfl, ?_⟩
  iterate 2 refine Below.setCell ?_ (show w.heap.size ≤ w.heap.size from Nat.le_refl _) _
  exact HB1.out

/-- What orNothing leaves. -/
def orV (b : Bool) (v : Value) : Value := if b = true then v else .slice none 0 0

set_option maxHeartbeats 2000000 in
theorem cOrNot (v : Value) (b : Bool) (w : World) :
    Calls Tryz.prog 19 #[v, .bool b] w fun e w' => e = .returned (.tuple #[orV b v, .bool b]) ∧ w' = w := by
  cases b with
  | false =>
    go_enter Tryz.func19, Tryz.ntmps19
    go_wp2
    go_ret2
    exact ⟨rfl, rfl⟩
  | true =>
    go_enter Tryz.func19, Tryz.ntmps19
    go_wp2
    go_ret2
    exact ⟨rfl, rfl⟩

end Go.Proofs.YtcjeodgfpnecgaaGreatDoor

namespace Go.Proofs.YtcjeodgfpnecgaaGreatDoor
open Go.RowKit
set_option linter.unusedVariables false
set_option linter.unusedSimpArgs false

theorem let_heap2 (w : World) (A B : Obj) : ((w.alloc A).alloc B).heap[w.heap.size]? = some A ∧ ((w.alloc A).alloc B).heap[w.heap.size + 1]? = some B :=
  ⟨blk_alloc (heap_alloc_new w A) B, q_heap2 w A B⟩

theorem cells_letOne : AtCells #[.string nsLS, .string claimS] 0 [⟨nsLS, claimS⟩] := cells_one _ _

set_option maxRecDepth 8000 in
set_option maxHeartbeats 4000000 in
theorem cFirstNo (id cid : ByteArray) (w : World) (hs : id.size ≤ 1048576) (hu : useI id cid = 0) :
    Calls Tryz.prog 18 #[.string id, .string cid] w fun e w' => e = .returned (.tuple #[.agg #[.int .i64 0, .string ⟨#[]⟩, .slice none 0 0, .string ⟨#[]⟩], .bool false]) ∧ Below w.heap.size w w' := by
  have CU := hid (fun wx => cIdUse id cid wx hs)
  rw [hu] at CU
  have CI := hid q_itself
  have CD := hid cDeclL
  have HB0 := hid ((Below.refl w.heap.size w).alloc (Nat.le_refl _) (.cells #[.int .i64 0, .string ⟨#[]⟩, .slice none 0 0, .string ⟨#[]⟩] 44))
  have M0 := hid (heap_alloc_new w (.cells #[.int .i64 0, .string ⟨#[]⟩, .slice none 0 0, .string ⟨#[]⟩] 44))
  have e1 : (⟨#[108]⟩ : ByteArray) ++ ⟨#[58]⟩ = ⟨#[108, 58]⟩ := rfl
  have e2 : (⟨#[108, 58]⟩ : ByteArray) ++ ⟨#[76, 101, 116, 116, 101, 114]⟩ = letterS := rfl
  have z1 : (⟨#[108]⟩ : ByteArray).size + (⟨#[58]⟩ : ByteArray).size ≤ 9223372036854775807 := by decide
  have z2 : (⟨#[108, 58]⟩ : ByteArray).size + (⟨#[76, 101, 116, 116, 101, 114]⟩ : ByteArray).size ≤ 9223372036854775807 := by decide
  unfold claimS at CD
  go_enter Tryz.func18, Tryz.ntmps18
  go_wp2_with fail
  refine (CI.out _).mono ?_
  rintro e w1 ⟨rfl, hb1⟩
  have HB1 := hid (bb HB0.out hb1)
  have M1 := hid (blk_below M0.out hb1)
  clear hb1
  go_wp2_with fail
  refine (CD.out _).mono ?_
  rintro e w2 ⟨rfl, hb2⟩
  have HB2 := hid (bb HB1.out hb2)
  have M2 := hid (blk_below M1.out hb2)
  clear hb2
  go_wp2_with fail
  refine (CU.out _).mono ?_
  rintro e w3 ⟨rfl, hw3⟩
  obtain rfl := hw3.symm
  obtain ⟨⟨k0, k1, k2, k3⟩, kf⟩ := box4 (blk_alloc (blk_alloc M2.out (.cells #[.string nsLS, .string ⟨#[99, 108, 97, 105, 109]⟩] 58)) (.cells #[.int .i64 (-1), .string letterS, .slice (some ⟨w2.heap.size, 0, none⟩) 1 1, .string ⟨#[]⟩] 44))
  go_wp2_with fail
  refine bodyPost_ret (v := .tuple #[.agg #[.int .i64 0, .string ⟨#[]⟩, .slice none 0 0, .string ⟨#[]⟩], .bool false]) (by simp [results, Tryz.results18, go_sem, k0, k1, k2, k3]) rfl ⟨rfl, ?_⟩
  iterate 4 refine Below.setCell ?_ (show w.heap.size ≤ w.heap.size from Nat.le_refl _) _
  exact (HB2.out.alloc HB2.out.size _).alloc (HB2.out.alloc HB2.out.size _).size _

end Go.Proofs.YtcjeodgfpnecgaaGreatDoor
