/-  -/
import Derived.Test.YtlpbbkaelbafdaaGreatDoorM15
import Derived.Test.YtlpbbkaelbafdaaGreatDoorM12
import Derived.Test.YtlpbbkaelbafdaaGreatDoorM11
import Derived.Test.YtlpbbkaelbafdaaGreatDoorM1
import Derived.Test.YtlpbbkaelbafdaaGreatDoorM2
import Derived.Test.YtlpbbkaelbafdaaGreatDoorM4
import Derived.Deep.RegionHeld3
import Derived.ProofKit
import Derived.OpenShut
set_option linter.unusedVariables false
set_option linter.unusedSimpArgs false
namespace Go.Proofs.YtlpbbkaelbafdaaGreatDoor
open Go.RowKit

theorem cells_one (x y : ByteArray) : AtCells #[.string x, .string y] 0 [⟨x, y⟩] := fun m h => by
 have : m = 0 := by simp at h; omega
 subst this
 exact ⟨rfl, rfl⟩

theorem cells_two (x y u v : ByteArray) : AtCells #[.string x, .string y, .string u, .string v] 0 [⟨x, y⟩, ⟨u, v⟩] := fun m h => by
 have h2 : m < 2 := by simpa using h
 match m, h2 with
 | 0, _ => exact ⟨rfl, rfl⟩
 | 1, _ => exact ⟨rfl, rfl⟩

theorem own_of {w : World} {B g : Nat} {cu : Array Value} {l : List At} (hB : B <= g) (hh : w.heap[g]? = some (.cells cu 40 (0, 0))) (hc : AtCells cu 0 l) : OwnAts w B (some ⟨g, 0, none⟩) l := fun _ => ⟨g, 0, cu, rfl, hB, hh, hc⟩

theorem row_head {w W : World} {c : Cm} {g g2 : Nat} (hb : Below w.heap.size w W) (hg : w.heap.size <= g) (hg2 : w.heap.size <= g2) (hne : ¬ g2 = g) (h1 : W.heap[g]? = some (.cells #[.string nsCS, .string claimS, .string idS, .string c.id] 40 (0, 0)))
  (h2 : W.heap[g2]? = some (.cells #[.int .i64 (-1), .string cClaimS, .slice (some ⟨g, 0, none⟩) 2 2, .string nE] 42 (0, 0))) : RowOf w W (.slice (some ⟨g2, 0, none⟩) 1 1) [headT c] :=
 ⟨⟨[⟨headT c, some ⟨g, 0, none⟩, 2⟩], _, 1, rfl, Nd.Row.one (e := ⟨headT c, some ⟨g, 0, none⟩, 2⟩) hg2 h2 (own_of hg h1 (cells_two _ _ _ _)) (fun g' o h e => by cases e; exact fun e2 => hne e2.symm), rfl⟩, hb⟩

noncomputable def qTx (x : Int) : ByteArray := ⟨(textOf x).toArray⟩

set_option maxRecDepth 16000 in
set_option maxHeartbeats 8000000 in
theorem cTreeS (c : Cm) (a : Option Addr) (cap : Nat) (w : World) (hR : AtRow w a c.facts) (hz : CmSz 1048576 c) (h4 : c.facts.length <= 4) (n1 : ¬ c.iss.size = 0) (n2 : ¬ c.sub.size = 0) (n3 : ¬ c.whom.size = 0) :
  Calls Tryz.prog 25 #[cmV c a cap] w fun e w' => ∃ v, e = .returned v /\ RowOf w w' v (treeTo c (qTx c.frm) (qTx c.til) 6) := by
 have HR := hid hR
 have HX := hid (ClBox.new w c (.slice a c.facts.length cap) 26)
 have HB0 := hid ((Below.refl w.heap.size w).alloc (Nat.le_refl _) (.cells #[.string c.id, .string c.iss, .string c.sub, .int .i64 c.frm, .int .i64 c.til, .string c.whom, .string c.ans, .slice a c.facts.length cap] 26))
 have CT1 := hid (fun wx => t_cTextS c.frm wx)
 have CT2 := hid (fun wx => t_cTextS c.til wx)
 have HL := hid (fun k => treeTo_len c (qTx c.frm) (qTx c.til) (by omega) k)
 obtain ⟨T, hT⟩ : ∃ T : Nat -> List Tk, treeTo c (qTx c.frm) (qTx c.til) = T := ⟨_, rfl⟩
 have HT0 := hid (show T 0 = [headT c] by rw [<- hT]; rfl)
 have HT1 := hid (show T 1 = addN (T 0) (kidN 0) ⟨[], c.iss⟩ by rw [<- hT]; show addAll _ _ (txtL c.iss) = _; rw [txtL_one n1]; rfl)
 have HT2 := hid (show T 2 = addN (T 1) (kidN 1) ⟨[], c.sub⟩ by rw [<- hT]; show addAll _ _ (txtL c.sub) = _; rw [txtL_one n2]; rfl)
 have HT3 := hid (show T 3 = addN (T 2) (kidN 2) ⟨[⟨fromS, qTx c.frm⟩, ⟨toS, qTx c.til⟩], nE⟩ by rw [<- hT]; rfl)
 have HT4 := hid (show T 4 = addN (T 3) (kidN 3) ⟨[], c.whom⟩ by rw [<- hT]; show addAll _ _ (txtL c.whom) = _; rw [txtL_one n3]; rfl)
 have HT5 := hid (show T 5 = addAll (T 4) (kidN 4) (txtL c.ans) by rw [<- hT]; rfl)
 have HT6 := hid (show T 6 = addAll (T 5) (kidN 5) (factL c.facts) by rw [<- hT]; rfl)
 rw [hT] at HL ⊢
 unfold cmV
 obtain ⟨w0, hw0⟩ : ∃ w0, w.alloc (.cells #[.string c.id, .string c.iss, .string c.sub, .int .i64 c.frm, .int .i64 c.til, .string c.whom, .string c.ans, .slice a c.facts.length cap] 26) = w0 := ⟨_, rfl⟩
 rw [hw0] at HX HB0
 have CA := hid (fun (wr wx : World) (v : Value) (L : List Tk) (name : ByteArray) (x : Say) (a1 : Option Addr) (c1 : Nat) (hrow : RowOf w0 wr v L) (hB : Below wr.heap.size wr wx) (hA : OwnAts wx wr.heap.size a1 x.attrs) (hn : L.length <= 100000) => cAddS w0 wr wx v L name x a1 c1 hrow hB hA hn)
 obtain ⟨B, hB⟩ : ∃ B, w.heap.size = B := ⟨_, rfl⟩
 rw [hB] at HX
 change Hid (∀ wx, Calls Tryz.prog 74 #[.int .i64 c.frm] wx fun e w' => e = .returned (.string (qTx c.frm)) /\ Below wx.heap.size wx w') at CT1
 change Hid (∀ wx, Calls Tryz.prog 74 #[.int .i64 c.til] wx fun e w' => e = .returned (.string (qTx c.til)) /\ Below wx.heap.size wx w') at CT2
 generalize qTx c.frm = U at *
 generalize qTx c.til = V at *
 clear hT n1 n2 n3 hR hz
 have f0 := HX.out.c0
 have HBa := hid ((Below.refl w0.heap.size w0).alloc (Nat.le_refl _) (.cells #[.string nsCS, .string claimS, .string idS, .string c.id] 40))
 have Ha1 := hid (heap_alloc_new w0 (.cells #[.string nsCS, .string claimS, .string idS, .string c.id] 40))
 obtain ⟨wa, hwa⟩ : ∃ wa, w0.alloc (.cells #[.string nsCS, .string claimS, .string idS, .string c.id] 40) = wa := ⟨_, rfl⟩
 rw [hwa] at HBa Ha1
 obtain ⟨ga, hga⟩ : ∃ g, w0.heap.size = g := ⟨_, rfl⟩
 have hga1 : wa.heap.size = ga + 1 := by rw [<- hwa, World.size_alloc, hga]
 rw [hga] at Ha1
 have HBb := hid ((Below.refl wa.heap.size wa).alloc (Nat.le_refl _) (.cells #[.int .i64 (-1), .string cClaimS, .slice (some ⟨ga, 0, none⟩) 2 2, .string nE] 42))
 have Hb1 := hid (heap_alloc_new wa (.cells #[.int .i64 (-1), .string cClaimS, .slice (some ⟨ga, 0, none⟩) 2 2, .string nE] 42))
 obtain ⟨w1, hw1⟩ : ∃ wa2, wa.alloc (.cells #[.int .i64 (-1), .string cClaimS, .slice (some ⟨ga, 0, none⟩) 2 2, .string nE] 42) = wa2 := ⟨_, rfl⟩
 rw [hw1, hga1] at Hb1
 rw [hw1] at HBb
 have HB1 := hid (bb HBa.out HBb.out)
 have HX1 := hid ((HX.out.below HBa.out).below HBb.out)
 have HR1 := hid (show RowOf w0 w1 (.slice (some ⟨ga + 1, 0, none⟩) 1 1) (T 0) by
  rw [HT0.out]
  exact row_head HB1.out (by omega) (by omega) (by omega) (blk_below Ha1.out HBb.out) Hb1.out)
 have f1 := HX1.out.c1
 unfold nsCS claimS idS at hwa
 unfold cClaimS nE at hw1
 have HRX := hid (HR.out.below HB0.out)
 clear HBa HBb Ha1 Hb1 HR HX1 HB1
 go_enter Tryz.func25, Tryz.ntmps25
 go_wp2_with fail
 have CA1 := hid (CA.out w1 w1 _ (T 0) (kidN 0) ⟨[], c.iss⟩ none 0 HR1.out (Below.refl _ _) (own_nil _ _ _) (by have := HL.out 0; omega))
 refine CA1.out.mono ?_
 rintro e w2 ⟨v2, rfl, hr2⟩
 rw [<- HT1.out] at hr2
 have HR2 := hid hr2
 have HX2 := hid (HX.out.below hr2.bel)
 clear hr2 CA1 hw1 hwa f0 f1 HR1 hga hga1
 have f2 := HX2.out.c2
 go_wp2_with fail
 have CA2 := hid (CA.out w2 w2 v2 (T 1) (kidN 1) ⟨[], c.sub⟩ none 0 HR2.out (Below.refl _ _) (own_nil _ _ _) (by have := HL.out 1; omega))
 refine CA2.out.mono ?_
 rintro e w3 ⟨v3, rfl, hr3⟩
 rw [<- HT2.out] at hr3
 have HR3 := hid hr3
 have HX3 := hid (HX.out.below hr3.bel)
 clear hr3 CA2 f2 HR2 HX2
 go_upto_region 4 with fail
 go_cut [3] from 20 to 30 (fun v wv => Hid (RowOf w0 wv v (T 3)))
 case first =>
  have HBc := hid ((Below.refl w3.heap.size w3).drew)
  have HL2 := hid (show (T 2).length <= 100000 by have := HL.out 2; omega)
  have HSX := hid (show ∀ W', Below w3.heap.size w3 W' -> W'.cell? ⟨B, 3, none⟩ = some (.int .i64 c.frm) /\ W'.cell? ⟨B, 4, none⟩ = some (.int .i64 c.til) from fun W' hb => ⟨(HX3.out.below hb).c3, (HX3.out.below hb).c4⟩)
  go_region_held3 (fun w' => w'.cell? ⟨B, 3, none⟩ = some (.int .i64 c.frm) /\ w'.cell? ⟨B, 4, none⟩ = some (.int .i64 c.til)) (first | exact HS6.out | exact HSX.out _ HBc.out | exact HSX.out _ (HBc.out.alloc HBc.out.size _))
   (first
    | (go_at_call 74; (with_reducible refine (CT1.out _).mono ?_); rintro e w4 ⟨rfl, hb4⟩; replace HBc := hid (bb HBc.out hb4); clear hb4)
    | (go_at_call 74; (with_reducible refine (CT2.out _).mono ?_); rintro e w5 ⟨rfl, hb5⟩; replace HBc := hid (bb HBc.out hb5); clear hb5)
    | (go_at_call 73; refine (CA.out w3 _ v3 (T 2) (kidN 2) ⟨[⟨fromS, U⟩, ⟨toS, V⟩], nE⟩ (some ⟨_, 0, none⟩) 2 HR3.out (HBc.out.alloc HBc.out.size _) (own_of HBc.out.size (heap_alloc_new _ _) (cells_two _ _ _ _)) HL2.out).mono ?_; rintro e w6 ⟨v6, rfl, hr6⟩; have HR6 := hid (show RowOf w0 w6 v6 (T 3) by rw [HT3.out]; exact hr6); have HS6 := hid (And.intro (HX.out.below hr6.bel).c3 (HX.out.below hr6.bel).c4); clear hr6))
  all_goals
   go_wp2_with fail
   go_meet
   exact HR6.out
 case rest =>
  have HR4 := hcut
  have HX4 := hid (HX.out.below HR4.out.bel)
  clear HX3 HR3 hcut CT1 CT2 HT3
  have f5 := HX4.out.c5
  have CA4 := hid (CA.out wc wc u3 (T 3) (kidN 3) ⟨[], c.whom⟩ none 0 HR4.out (Below.refl _ _) (own_nil _ _ _) (by have := HL.out 3; omega))
  go_wp2_with fail
  refine CA4.out.mono ?_
  rintro e w5 ⟨v5, rfl, hr5⟩
  rw [<- HT4.out] at hr5
  have HR5 := hid hr5
  have HX5 := hid (HX.out.below hr5.bel)
  clear hr5 CA4 f5 HR4 HX4
  have E := empty_is c.ans
  have f6 := HX5.out.c6
  obtain ⟨P, hP⟩ : ∃ P, decide (c.ans.size = 0) = P := ⟨_, rfl⟩
  rw [hP] at E
  have HE : Hid (T 5 = if P then T 4 else addN (T 4) (kidN 4) ⟨[], c.ans⟩) := by
   cases P with
   | true => rw [HT5.out, show txtL c.ans = [] from if_pos (of_decide_eq_true hP)]; rfl
   | false => rw [HT5.out, txtL_one (of_decide_eq_false hP)]; rfl
  clear hP
  go_upto_if 37 with fail
  go_cut [3] from 38 to 41 (fun v wv => Hid (RowOf w0 wv v (T 5)))
  case first =>
   cases P with
   | true =>
    go_wp2_with fail
    go_meet
    have h := HR5.out
    rw [show T 4 = T 5 from HE.out.symm] at h
    exact h
   | false =>
    have CA5 := hid (CA.out w5 w5 v5 (T 4) (kidN 4) ⟨[], c.ans⟩ none 0 HR5.out (Below.refl _ _) (own_nil _ _ _) (by have := HL.out 4; omega))
    go_wp2_with fail
    refine CA5.out.mono ?_
    rintro e w6 ⟨v6, rfl, hr6⟩
    rw [show addN (T 4) (kidN 4) ⟨[], c.ans⟩ = T 5 from HE.out.symm] at hr6
    have HR6 := hid hr6
    clear hr6
    go_wp2_with fail
    go_meet
    exact HR6.out
  case rest =>
  have HR6 := hcut
  clear HX5 HR5 hcut f6 E HE
  obtain ⟨wo, hwo⟩ : ∃ W, W = wc := ⟨_, rfl⟩
  subst hwo
  obtain ⟨n, hn⟩ : ∃ n, c.facts.length = n := ⟨_, rfl⟩
  have HN := hid hn
  have HL5 := hid (HL.out 5)
  rw [hn] at HX h4
  clear hn
  go_wp2_with fail
  go_loopw [3, 4] (fun v x wr => ∃ i : Nat, x = .int .i64 (i : Int) /\ i <= n /\ Hid (RowOf w0 wr v (addAll (T 5) (kidN 5) ((factL c.facts).take i)))) (fun _ x _ => n - (intOf x).toNat)
  case atStart => exact ⟨0, rfl, Nat.zero_le _, by rw [List.take_zero]; exact HR6.out⟩
  case round =>
   clear HR6
   obtain ⟨i, rfl, hin, HW⟩ := hrel
   have HXr := hid (HX.out.below HW.out.bel)
   by_cases hlt : i < n
   ·have his : i < c.facts.length := by rw [HN.out]; exact hlt
    have hit : (i : Int) < (n : Int) := by omega
    obtain ⟨b, o, rfl, hb, k1, k2⟩ := HRX.out i his
    have HNX := hid (show addAll (T 5) (kidN 5) ((factL c.facts).take (i + 1)) = addN (addAll (T 5) (kidN 5) ((factL c.facts).take i)) (kidN 5) ⟨[⟨nameS, c.facts[i].name⟩], c.facts[i].value⟩ by rw [factL_take his, addAll_snoc])
    have hlen := (addAll_len (T 5) (kidN 5) ((factL c.facts).take i)).2
    have hlen2 : (addAll (T 5) (kidN 5) ((factL c.facts).take i)).length <= 100000 := by
     rw [List.length_take] at hlen
     have := HL5.out
     omega
    have HLE := hid hlen2
    generalize c.facts[i].name = nm at *
    generalize c.facts[i].value = vl at *
    generalize addAll (T 5) (kidN 5) ((factL c.facts).take i) = L at *
    have HBc := hid ((Below.refl wr.heap.size wr).drew)
    have HSX := hid (show ∀ W', Below w0.heap.size w0 W' -> W'.cell? ⟨B, 7, none⟩ = some (.slice (some ⟨b, o, none⟩) n cap) /\ W'.cell? ⟨b, o + i * 2, none⟩ = some (.string nm) /\ W'.cell? ⟨b, o + i * 2 + 1, none⟩ = some (.string vl) from fun W' h => ⟨(HX.out.below h).c7, (h.cell (p := ⟨b, o + i * 2, none⟩) hb).trans k1, (h.cell (p := ⟨b, o + i * 2 + 1, none⟩) hb).trans k2⟩)
    have f7 := HXr.out.c7
    clear hlen hlen2 his k1 k2
    go_wp2_with fail
    go_region_held3 (fun w' => w'.cell? ⟨B, 7, none⟩ = some (.slice (some ⟨b, o, none⟩) n cap) /\ w'.cell? ⟨b, o + i * 2, none⟩ = some (.string nm) /\ w'.cell? ⟨b, o + i * 2 + 1, none⟩ = some (.string vl)) (first | exact HS6.out | exact HSX.out _ (bb HW.out.bel HBc.out) | exact HSX.out _ (bb HW.out.bel (HBc.out.alloc HBc.out.size _)))
     (first
      | (go_at_call 73; refine (CA.out wr _ u3 L (kidN 5) ⟨[⟨nameS, nm⟩], vl⟩ (some ⟨_, 0, none⟩) 1 HW.out (HBc.out.alloc HBc.out.size _) (own_of HBc.out.size (heap_alloc_new _ _) (cells_one _ _)) HLE.out).mono ?_; rintro e w6 ⟨v6, rfl, hr6⟩; have HR6 := hid (HNX.out ▸ hr6); have HS6 := hid (HSX.out _ hr6.bel); clear hr6))
    go_wp2_with fail
    go_roundw
    case rel => exact ⟨i + 1, by go_num, by omega, HR6.out⟩
    case measure => simp [intOf]; omega
   ·have hie : i = n := by omega
    subst hie
    have f7 := HXr.out.c7
    have HFI := hid (show RowOf w0 wr u3 (T 6) by
     rw [HT6.out]
     have h := HW.out
     rw [List.take_of_length_le (by rw [factL_len, HN.out]; exact Nat.le_refl _)] at h
     exact h)
    go_wp2_with fail
    go_ret
    exact ⟨_, rfl, RowOf.later HB0.out HFI.out⟩

theorem claimB_parts {c : Cm} (h : claimB c = true) : (¬ c.iss.size = 0) /\ (¬ c.sub.size = 0) /\ (¬ c.whom.size = 0) /\ c.facts.length <= 4 := by
 unfold claimB at h
 simp only [Bool.and_eq_true] at h
 obtain ⟨⟨⟨⟨⟨⟨⟨_, h1⟩, h2⟩, h3⟩, _⟩, _⟩, _⟩, h4⟩ := h
 have f : ∀ {s : ByteArray}, wordB s = true -> ¬ s.size = 0 := fun {s} hs e => by
  unfold wordB at hs
  rw [decide_eq_true e] at hs
  cases hs
 exact ⟨f h1, f h2, f h3, (factsB_p h4).1⟩

set_option maxRecDepth 8000 in
set_option maxHeartbeats 4000000 in
theorem cClaimTreeS (c : Cm) (a : Option Addr) (cap : Nat) (w : World) (hR : AtRow w a c.facts) (hz : CmSz 1048576 c) :
  Calls Tryz.prog 12 #[cmV c a cap] w fun e w' => ∃ v, e = .returned v /\ RowOf w w' v (claimT c (qTx c.frm) (qTx c.til)) := by
 have HX := hid (ClBox.new w c (.slice a c.facts.length cap) 26)
 have HB0 := hid ((Below.refl w.heap.size w).alloc (Nat.le_refl _) (.cells #[.string c.id, .string c.iss, .string c.sub, .int .i64 c.frm, .int .i64 c.til, .string c.whom, .string c.ans, .slice a c.facts.length cap] 26))
 have CO := hid (fun wx (h : Below w.heap.size w wx) => cClaimOkS c a cap wx (hR.below h) hz)
 have CT := hid (fun (hK : claimB c = true) wx (h : Below w.heap.size w wx) => cTreeS c a cap wx (hR.below h) hz (claimB_parts hK).2.2.2 (claimB_parts hK).1 (claimB_parts hK).2.1 (claimB_parts hK).2.2.1)
 unfold claimT
 generalize treeTo c (qTx c.frm) (qTx c.til) 6 = L at *
 generalize claimB c = K at *
 unfold cmV at *
 obtain ⟨w0, hw0⟩ : ∃ w0, w.alloc (.cells #[.string c.id, .string c.iss, .string c.sub, .int .i64 c.frm, .int .i64 c.til, .string c.whom, .string c.ans, .slice a c.facts.length cap] 26) = w0 := ⟨_, rfl⟩
 rw [hw0] at HX HB0
 obtain ⟨B, hB⟩ : ∃ B, w.heap.size = B := ⟨_, rfl⟩
 rw [hB] at HX
 clear hR hz
 obtain ⟨f0, f1, f2, f3, f4, f5, f6, f7⟩ := And.intro HX.out.c0 (And.intro HX.out.c1 (And.intro HX.out.c2 (And.intro HX.out.c3 (And.intro HX.out.c4 (And.intro HX.out.c5 (And.intro HX.out.c6 HX.out.c7))))))
 cases K with
 | false =>
  go_enter Tryz.func12, Tryz.ntmps12
  go_wp2_with fail
  refine (CO.out _ HB0.out).mono ?_
  rintro e w1 ⟨rfl, hb1⟩
  have HB1 := hid (bb HB0.out hb1)
  clear hb1 hw0 f0 f1 f2 f3 f4 f5 f6 f7
  go_wp2_with fail
  go_ret
  exact ⟨_, rfl, RowOf.start (HB1.out.alloc HB1.out.size _) HB1.out.size (heap_alloc_new _ _)⟩
 | true =>
  have CT1 := hid (CT.out rfl)
  clear CT
  go_enter Tryz.func12, Tryz.ntmps12
  go_wp2_with fail
  refine (CO.out _ HB0.out).mono ?_
  rintro e w1 ⟨rfl, hb1⟩
  have HB1 := hid (bb HB0.out hb1)
  have HX1 := hid (HX.out.below hb1)
  clear hb1 hw0 f0 f1 f2 f3 f4 f5 f6 f7
  obtain ⟨f0, f1, f2, f3, f4, f5, f6, f7⟩ := And.intro HX1.out.c0 (And.intro HX1.out.c1 (And.intro HX1.out.c2 (And.intro HX1.out.c3 (And.intro HX1.out.c4 (And.intro HX1.out.c5 (And.intro HX1.out.c6 HX1.out.c7))))))
  go_wp2_with fail
  refine (CT1.out _ HB1.out).mono ?_
  rintro e w2 ⟨v2, rfl, hr2⟩
  have HR2 := hid (RowOf.later HB1.out hr2)
  clear hr2
  go_wp2_with fail
  go_ret
  exact ⟨_, rfl, HR2.out⟩

end Go.Proofs.YtlpbbkaelbafdaaGreatDoor

namespace Go.Proofs.YtlpbbkaelbafdaaGreatDoor
open Go.RowKit

def SayR (w : World) (B : Nat) (a : Option Addr) (l : List Say) : Prop := 0 < l.length -> ∃ b cu, a = some ⟨b, 0, none⟩ /\ B <= b /\ w.heap[b]? = some (.cells cu 54 (0, 0)) /\ ∀ j (h : j < l.length), ∃ aj cj, cu[j * 2]? = some (.slice aj l[j].attrs.length cj) /\ cu[j * 2 + 1]? = some (.string l[j].text) /\ OwnAts w B aj l[j].attrs

theorem SayR.nil (w : World) (B : Nat) (a : Option Addr) : SayR w B a [] := fun h => absurd h (Nat.lt_irrefl 0)

theorem SayR.one {w : World} {B g : Nat} {x : Say} {aj : Option Addr} {cj : Nat} (hB : B <= g) (hh : w.heap[g]? = some (.cells #[.slice aj x.attrs.length cj, .string x.text] 54 (0, 0))) (hA : OwnAts w B aj x.attrs) : SayR w B (some ⟨g, 0, none⟩) [x] := fun _ =>
 ⟨g, _, rfl, hB, hh, fun j h => by
  have : j = 0 := by simp at h; omega
  subst this
  exact ⟨aj, cj, rfl, rfl, hA⟩⟩

theorem q_heap2 (w : World) (A B : Obj) : ((w.alloc A).alloc B).heap[w.heap.size + 1]? = some B := by
 have h := heap_alloc_new (w.alloc A) B
 rw [World.size_alloc] at h
 exact h

def Told (F : FuncId) (C : Array Value) (w : World) (c : Cm) (a : Option Addr) (cap : Nat) (l : List Say) : Prop :=
 (∀ v (wx : World), (callFunc F (#[v] ++ C)).run Tryz.prog wx = .ok (.enter F (#[v] ++ C)) wx) /\
 ∀ (wx : World), Below w.heap.size w wx -> Calls Tryz.prog F (#[cmV c a cap] ++ C) wx fun e w' => ∃ a' c', e = .returned (.slice a' l.length c') /\ SayR w' wx.heap.size a' l /\ Below wx.heap.size wx w'

set_option maxHeartbeats 1000000 in
theorem cField1 (p : Nat) (w : World) : Calls Tryz.prog 64 #[.pointer (some ⟨p, 0, none⟩)] w fun e w' => e = .returned (.pointer (some ⟨p, 1, none⟩)) /\ w' = w := by
 go_enter Tryz.func64, Tryz.ntmps64
 go_wp2
 go_ret
 exact ⟨rfl, rfl⟩

set_option maxRecDepth 8000 in
set_option maxHeartbeats 4000000 in
theorem cTold1 (b : Nat) (T : TypeId) (c : Cm) (a : Option Addr) (cap : Nat) (w : World) (hb : w.heap[b]? = some (.cells #[.func (.func 64) #[] #[]] T (0, 0))) :
  Calls Tryz.prog 111 #[cmV c a cap, .pointer (some ⟨b, 0, none⟩)] w fun e w' => ∃ a' c', e = .returned (.slice a' (txtL c.iss).length c') /\ SayR w' w.heap.size a' (txtL c.iss) /\ Below w.heap.size w w' := by
 have HX := hid (ClBox.new w c (.slice a c.facts.length cap) 26)
 have HB0 := hid ((Below.refl w.heap.size w).alloc (Nat.le_refl _) (.cells #[.string c.id, .string c.iss, .string c.sub, .int .i64 c.frm, .int .i64 c.til, .string c.whom, .string c.ans, .slice a c.facts.length cap] 26))
 have E := empty_is c.iss
 have CF := hid (fun p wx => cField1 p wx)
 unfold cmV
 obtain ⟨w0, hw0⟩ : ∃ w0, w.alloc (.cells #[.string c.id, .string c.iss, .string c.sub, .int .i64 c.frm, .int .i64 c.til, .string c.whom, .string c.ans, .slice a c.facts.length cap] 26) = w0 := ⟨_, rfl⟩
 rw [hw0] at HX HB0
 have f0 : w0.cell? ⟨b, 0, none⟩ = some (.func (.func 64) #[] #[]) := by rw [Lib.cell_of_heap (blk_below hb HB0.out)]; rfl
 obtain ⟨B, hB⟩ : ∃ B, w.heap.size = B := ⟨_, rfl⟩
 rw [hB] at HX
 have f1 := HX.out.c1
 clear hb
 by_cases ht : c.iss.size = 0
 ·rw [decide_eq_true ht] at E
  have HE := hid (show txtL c.iss = [] from if_pos ht)
  clear ht
  go_enter Tryz.func111, Tryz.ntmps111
  go_wp2_with fail
  refine (CF.out _ _).mono ?_
  rintro e w1 ⟨rfl, rfl⟩
  go_wp2_with fail
  go_ret
  exact ⟨none, 0, by rw [HE.out]; rfl, by rw [HE.out]; exact SayR.nil _ _ _, hB ▸ HB0.out⟩
 ·rw [decide_eq_false ht] at E
  have HE := hid (txtL_one ht)
  clear ht
  go_enter Tryz.func111, Tryz.ntmps111
  go_wp2_with fail
  refine (CF.out _ _).mono ?_
  rintro e w1 ⟨rfl, rfl⟩
  go_wp2_with fail
  refine (CF.out _ _).mono ?_
  rintro e w1 ⟨rfl, rfl⟩
  go_wp2_with fail
  go_ret
  exact ⟨_, _, by rw [HE.out]; rfl, by rw [HE.out]; exact SayR.one (hB ▸ HB0.out.size) (heap_alloc_new _ _) (own_nil _ _ none), hB ▸ HB0.out.alloc HB0.out.size _⟩

set_option maxHeartbeats 1000000 in
theorem cField2 (p : Nat) (w : World) : Calls Tryz.prog 65 #[.pointer (some ⟨p, 0, none⟩)] w fun e w' => e = .returned (.pointer (some ⟨p, 2, none⟩)) /\ w' = w := by
 go_enter Tryz.func65, Tryz.ntmps65
 go_wp2
 go_ret
 exact ⟨rfl, rfl⟩

set_option maxRecDepth 8000 in
set_option maxHeartbeats 4000000 in
theorem cTold2 (b : Nat) (T : TypeId) (c : Cm) (a : Option Addr) (cap : Nat) (w : World) (hb : w.heap[b]? = some (.cells #[.func (.func 65) #[] #[]] T (0, 0))) :
  Calls Tryz.prog 111 #[cmV c a cap, .pointer (some ⟨b, 0, none⟩)] w fun e w' => ∃ a' c', e = .returned (.slice a' (txtL c.sub).length c') /\ SayR w' w.heap.size a' (txtL c.sub) /\ Below w.heap.size w w' := by
 have HX := hid (ClBox.new w c (.slice a c.facts.length cap) 26)
 have HB0 := hid ((Below.refl w.heap.size w).alloc (Nat.le_refl _) (.cells #[.string c.id, .string c.iss, .string c.sub, .int .i64 c.frm, .int .i64 c.til, .string c.whom, .string c.ans, .slice a c.facts.length cap] 26))
 have E := empty_is c.sub
 have CF := hid (fun p wx => cField2 p wx)
 unfold cmV
 obtain ⟨w0, hw0⟩ : ∃ w0, w.alloc (.cells #[.string c.id, .string c.iss, .string c.sub, .int .i64 c.frm, .int .i64 c.til, .string c.whom, .string c.ans, .slice a c.facts.length cap] 26) = w0 := ⟨_, rfl⟩
 rw [hw0] at HX HB0
 have f0 : w0.cell? ⟨b, 0, none⟩ = some (.func (.func 65) #[] #[]) := by rw [Lib.cell_of_heap (blk_below hb HB0.out)]; rfl
 obtain ⟨B, hB⟩ : ∃ B, w.heap.size = B := ⟨_, rfl⟩
 rw [hB] at HX
 have f1 := HX.out.c2
 clear hb
 by_cases ht : c.sub.size = 0
 ·rw [decide_eq_true ht] at E
  have HE := hid (show txtL c.sub = [] from if_pos ht)
  clear ht
  go_enter Tryz.func111, Tryz.ntmps111
  go_wp2_with fail
  refine (CF.out _ _).mono ?_
  rintro e w1 ⟨rfl, rfl⟩
  go_wp2_with fail
  go_ret
  exact ⟨none, 0, by rw [HE.out]; rfl, by rw [HE.out]; exact SayR.nil _ _ _, hB ▸ HB0.out⟩
 ·rw [decide_eq_false ht] at E
  have HE := hid (txtL_one ht)
  clear ht
  go_enter Tryz.func111, Tryz.ntmps111
  go_wp2_with fail
  refine (CF.out _ _).mono ?_
  rintro e w1 ⟨rfl, rfl⟩
  go_wp2_with fail
  refine (CF.out _ _).mono ?_
  rintro e w1 ⟨rfl, rfl⟩
  go_wp2_with fail
  go_ret
  exact ⟨_, _, by rw [HE.out]; rfl, by rw [HE.out]; exact SayR.one (hB ▸ HB0.out.size) (heap_alloc_new _ _) (own_nil _ _ none), hB ▸ HB0.out.alloc HB0.out.size _⟩

set_option maxHeartbeats 1000000 in
theorem cField3 (p : Nat) (w : World) : Calls Tryz.prog 68 #[.pointer (some ⟨p, 0, none⟩)] w fun e w' => e = .returned (.pointer (some ⟨p, 5, none⟩)) /\ w' = w := by
 go_enter Tryz.func68, Tryz.ntmps68
 go_wp2
 go_ret
 exact ⟨rfl, rfl⟩

set_option maxRecDepth 8000 in
set_option maxHeartbeats 4000000 in
theorem cTold3 (b : Nat) (T : TypeId) (c : Cm) (a : Option Addr) (cap : Nat) (w : World) (hb : w.heap[b]? = some (.cells #[.func (.func 68) #[] #[]] T (0, 0))) :
  Calls Tryz.prog 111 #[cmV c a cap, .pointer (some ⟨b, 0, none⟩)] w fun e w' => ∃ a' c', e = .returned (.slice a' (txtL c.whom).length c') /\ SayR w' w.heap.size a' (txtL c.whom) /\ Below w.heap.size w w' := by
 have HX := hid (ClBox.new w c (.slice a c.facts.length cap) 26)
 have HB0 := hid ((Below.refl w.heap.size w).alloc (Nat.le_refl _) (.cells #[.string c.id, .string c.iss, .string c.sub, .int .i64 c.frm, .int .i64 c.til, .string c.whom, .string c.ans, .slice a c.facts.length cap] 26))
 have E := empty_is c.whom
 have CF := hid (fun p wx => cField3 p wx)
 unfold cmV
 obtain ⟨w0, hw0⟩ : ∃ w0, w.alloc (.cells #[.string c.id, .string c.iss, .string c.sub, .int .i64 c.frm, .int .i64 c.til, .string c.whom, .string c.ans, .slice a c.facts.length cap] 26) = w0 := ⟨_, rfl⟩
 rw [hw0] at HX HB0
 have f0 : w0.cell? ⟨b, 0, none⟩ = some (.func (.func 68) #[] #[]) := by rw [Lib.cell_of_heap (blk_below hb HB0.out)]; rfl
 obtain ⟨B, hB⟩ : ∃ B, w.heap.size = B := ⟨_, rfl⟩
 rw [hB] at HX
 have f1 := HX.out.c5
 clear hb
 by_cases ht : c.whom.size = 0
 ·rw [decide_eq_true ht] at E
  have HE := hid (show txtL c.whom = [] from if_pos ht)
  clear ht
  go_enter Tryz.func111, Tryz.ntmps111
  go_wp2_with fail
  refine (CF.out _ _).mono ?_
  rintro e w1 ⟨rfl, rfl⟩
  go_wp2_with fail
  go_ret
  exact ⟨none, 0, by rw [HE.out]; rfl, by rw [HE.out]; exact SayR.nil _ _ _, hB ▸ HB0.out⟩
 ·rw [decide_eq_false ht] at E
  have HE := hid (txtL_one ht)
  clear ht
  go_enter Tryz.func111, Tryz.ntmps111
  go_wp2_with fail
  refine (CF.out _ _).mono ?_
  rintro e w1 ⟨rfl, rfl⟩
  go_wp2_with fail
  refine (CF.out _ _).mono ?_
  rintro e w1 ⟨rfl, rfl⟩
  go_wp2_with fail
  go_ret
  exact ⟨_, _, by rw [HE.out]; rfl, by rw [HE.out]; exact SayR.one (hB ▸ HB0.out.size) (heap_alloc_new _ _) (own_nil _ _ none), hB ▸ HB0.out.alloc HB0.out.size _⟩

set_option maxHeartbeats 1000000 in
theorem cField4 (p : Nat) (w : World) : Calls Tryz.prog 69 #[.pointer (some ⟨p, 0, none⟩)] w fun e w' => e = .returned (.pointer (some ⟨p, 6, none⟩)) /\ w' = w := by
 go_enter Tryz.func69, Tryz.ntmps69
 go_wp2
 go_ret
 exact ⟨rfl, rfl⟩

set_option maxRecDepth 8000 in
set_option maxHeartbeats 4000000 in
theorem cTold4 (b : Nat) (T : TypeId) (c : Cm) (a : Option Addr) (cap : Nat) (w : World) (hb : w.heap[b]? = some (.cells #[.func (.func 69) #[] #[]] T (0, 0))) :
  Calls Tryz.prog 111 #[cmV c a cap, .pointer (some ⟨b, 0, none⟩)] w fun e w' => ∃ a' c', e = .returned (.slice a' (txtL c.ans).length c') /\ SayR w' w.heap.size a' (txtL c.ans) /\ Below w.heap.size w w' := by
 have HX := hid (ClBox.new w c (.slice a c.facts.length cap) 26)
 have HB0 := hid ((Below.refl w.heap.size w).alloc (Nat.le_refl _) (.cells #[.string c.id, .string c.iss, .string c.sub, .int .i64 c.frm, .int .i64 c.til, .string c.whom, .string c.ans, .slice a c.facts.length cap] 26))
 have E := empty_is c.ans
 have CF := hid (fun p wx => cField4 p wx)
 unfold cmV
 obtain ⟨w0, hw0⟩ : ∃ w0, w.alloc (.cells #[.string c.id, .string c.iss, .string c.sub, .int .i64 c.frm, .int .i64 c.til, .string c.whom, .string c.ans, .slice a c.facts.length cap] 26) = w0 := ⟨_, rfl⟩
 rw [hw0] at HX HB0
 have f0 : w0.cell? ⟨b, 0, none⟩ = some (.func (.func 69) #[] #[]) := by rw [Lib.cell_of_heap (blk_below hb HB0.out)]; rfl
 obtain ⟨B, hB⟩ : ∃ B, w.heap.size = B := ⟨_, rfl⟩
 rw [hB] at HX
 have f1 := HX.out.c6
 clear hb
 by_cases ht : c.ans.size = 0
 ·rw [decide_eq_true ht] at E
  have HE := hid (show txtL c.ans = [] from if_pos ht)
  clear ht
  go_enter Tryz.func111, Tryz.ntmps111
  go_wp2_with fail
  refine (CF.out _ _).mono ?_
  rintro e w1 ⟨rfl, rfl⟩
  go_wp2_with fail
  go_ret
  exact ⟨none, 0, by rw [HE.out]; rfl, by rw [HE.out]; exact SayR.nil _ _ _, hB ▸ HB0.out⟩
 ·rw [decide_eq_false ht] at E
  have HE := hid (txtL_one ht)
  clear ht
  go_enter Tryz.func111, Tryz.ntmps111
  go_wp2_with fail
  refine (CF.out _ _).mono ?_
  rintro e w1 ⟨rfl, rfl⟩
  go_wp2_with fail
  refine (CF.out _ _).mono ?_
  rintro e w1 ⟨rfl, rfl⟩
  go_wp2_with fail
  go_ret
  exact ⟨_, _, by rw [HE.out]; rfl, by rw [HE.out]; exact SayR.one (hB ▸ HB0.out.size) (heap_alloc_new _ _) (own_nil _ _ none), hB ▸ HB0.out.alloc HB0.out.size _⟩

set_option maxRecDepth 8000 in
set_option maxHeartbeats 4000000 in
theorem cTermTold (c : Cm) (a : Option Addr) (cap : Nat) (w : World) (hL : Laid w) :
  Calls Tryz.prog 66 #[cmV c a cap] w fun e w' => ∃ a' c', e = .returned (.slice a' 1 c') /\ SayR w' w.heap.size a' [⟨[⟨fromS, qTx c.frm⟩, ⟨toS, qTx c.til⟩], nE⟩] /\ Below w.heap.size w w' := by
 have HX := hid (ClBox.new w c (.slice a c.facts.length cap) 26)
 have HB0 := hid ((Below.refl w.heap.size w).alloc (Nat.le_refl _) (.cells #[.string c.id, .string c.iss, .string c.sub, .int .i64 c.frm, .int .i64 c.til, .string c.whom, .string c.ans, .slice a c.facts.length cap] 26))
 have CT1 := hid (fun wx (h : Below w.heap.size w wx) => cTextI c.frm wx (hL.below h))
 have CT2 := hid (fun wx (h : Below w.heap.size w wx) => cTextI c.til wx (hL.below h))
 unfold cmV
 obtain ⟨w0, hw0⟩ : ∃ w0, w.alloc (.cells #[.string c.id, .string c.iss, .string c.sub, .int .i64 c.frm, .int .i64 c.til, .string c.whom, .string c.ans, .slice a c.facts.length cap] 26) = w0 := ⟨_, rfl⟩
 rw [hw0] at HX HB0
 change Hid (∀ wx, Below w.heap.size w wx -> Calls Tryz.prog 113 #[.int .i64 c.frm] wx fun e w' => e = .returned (.string (qTx c.frm)) /\ Below wx.heap.size wx w') at CT1
 change Hid (∀ wx, Below w.heap.size w wx -> Calls Tryz.prog 113 #[.int .i64 c.til] wx fun e w' => e = .returned (.string (qTx c.til)) /\ Below wx.heap.size wx w') at CT2
 generalize qTx c.frm = U at *
 generalize qTx c.til = V at *
 obtain ⟨B, hB⟩ : ∃ B, w.heap.size = B := ⟨_, rfl⟩
 rw [hB] at HX
 clear hL
 have HSZ := hid (show B <= w0.heap.size from hB ▸ HB0.out.size)
 go_enter Tryz.func66, Tryz.ntmps66
 go_wp2_with fail
 have HBc := hid ((Below.refl w0.heap.size w0).drew)
 have HSX := hid (show ∀ W', Below w0.heap.size w0 W' -> W'.cell? ⟨B, 3, none⟩ = some (.int .i64 c.frm) /\ W'.cell? ⟨B, 4, none⟩ = some (.int .i64 c.til) from fun W' hb => ⟨(HX.out.below hb).c3, (HX.out.below hb).c4⟩)
 go_region_held3 (fun w' => w'.cell? ⟨B, 3, none⟩ = some (.int .i64 c.frm) /\ w'.cell? ⟨B, 4, none⟩ = some (.int .i64 c.til)) (first | exact HSX.out _ HBc.out | exact HSX.out _ (HBc.out.alloc HBc.out.size _) | exact HSX.out _ ((HBc.out.alloc HBc.out.size _).alloc (HBc.out.alloc HBc.out.size _).size _))
  (first
   | (go_at_call 113; (with_reducible refine (CT1.out _ (bb HB0.out HBc.out)).mono ?_); rintro e w4 ⟨rfl, hb4⟩; replace HBc := hid (bb HBc.out hb4); clear hb4)
   | (go_at_call 113; (with_reducible refine (CT2.out _ (bb HB0.out HBc.out)).mono ?_); rintro e w5 ⟨rfl, hb5⟩; replace HBc := hid (bb HBc.out hb5); clear hb5))
 all_goals
  go_wp2_with fail
  go_ret
  have hq1 := HBc.out.size
  have hq2 := HB0.out.size
  exact ⟨_, _, rfl, SayR.one (x := ⟨[⟨fromS, U⟩, ⟨toS, V⟩], nE⟩) (by omega) (q_heap2 _ _ _) (own_of (by omega) (blk_alloc (heap_alloc_new _ _) _) (cells_two _ _ _ _)), hB ▸ bb HB0.out ((HBc.out.alloc HBc.out.size _).alloc (HBc.out.alloc HBc.out.size _).size _)⟩

end Go.Proofs.YtlpbbkaelbafdaaGreatDoor

namespace Go.Proofs.YtlpbbkaelbafdaaGreatDoor
open Go.RowKit

theorem box8 {w : World} {g : Nat} {v0 v1 v2 v3 v4 v5 v6 v7 : Value} {T : TypeId} (h : w.heap[g]? = some (.cells #[v0, v1, v2, v3, v4, v5, v6, v7] T (0, 0))) :
  (w.cell? ⟨g, 0, none⟩ = some v0 /\ w.cell? ⟨g, 1, none⟩ = some v1 /\ w.cell? ⟨g, 2, none⟩ = some v2 /\ w.cell? ⟨g, 3, none⟩ = some v3 /\ w.cell? ⟨g, 4, none⟩ = some v4 /\ w.cell? ⟨g, 5, none⟩ = some v5 /\ w.cell? ⟨g, 6, none⟩ = some v6 /\ w.cell? ⟨g, 7, none⟩ = some v7) /\ (w.frozen? ⟨g, 0, none⟩ = false /\ w.frozen? ⟨g, 1, none⟩ = false /\ w.frozen? ⟨g, 2, none⟩ = false /\ w.frozen? ⟨g, 3, none⟩ = false /\ w.frozen? ⟨g, 4, none⟩ = false /\ w.frozen? ⟨g, 5, none⟩ = false /\ w.frozen? ⟨g, 6, none⟩ = false /\ w.frozen? ⟨g, 7, none⟩ = false) :=
 ⟨⟨by rw [Lib.cell_of_heap h]; rfl, by rw [Lib.cell_of_heap h]; rfl, by rw [Lib.cell_of_heap h]; rfl, by rw [Lib.cell_of_heap h]; rfl, by rw [Lib.cell_of_heap h]; rfl, by rw [Lib.cell_of_heap h]; rfl, by rw [Lib.cell_of_heap h]; rfl, by rw [Lib.cell_of_heap h]; rfl⟩, Lib.frozen_of_heap h 0, Lib.frozen_of_heap h 1, Lib.frozen_of_heap h 2, Lib.frozen_of_heap h 3, Lib.frozen_of_heap h 4, Lib.frozen_of_heap h 5, Lib.frozen_of_heap h 6, Lib.frozen_of_heap h 7⟩

end Go.Proofs.YtlpbbkaelbafdaaGreatDoor

namespace Go.Proofs.YtlpbbkaelbafdaaGreatDoor
open Go.RowKit

def IdxIs (l : List At) (name : ByteArray) (r : Int) : Prop :=
 (r = -1 /\ ∀ x ∈ l, ¬ x.name = name) \/ ∃ i : Nat, ∃ h : i < l.length, r = (i : Int) /\ l[i].name = name /\ ∀ x ∈ l.take i, ¬ x.name = name

theorem cell_alloc {w : World} {p : Addr} {v : Value} (h : w.cell? p = some v) (hp : p.block < w.heap.size) (o : Obj) : (w.alloc o).cell? p = some v :=
 (((Below.refl w.heap.size w).alloc (Nat.le_refl _) o).cell hp).trans h

set_option maxHeartbeats 1000000 in
theorem cAttrAt1 (n v name : ByteArray) (b o : Nat) (w : World) (hp : b < w.heap.size) (hc : w.cell? ⟨b, o, none⟩ = some (.string name)) (hn : n.size <= 1048576) (hm : name.size <= 1048576) :
  Calls Tryz.prog 141 #[.agg #[.string n, .string v], .pointer (some ⟨b, o, none⟩)] w fun e w' => e = .returned (.bool (decide (n = name))) /\ Below w.heap.size w w' := by
 have HB0 := hid ((Below.refl w.heap.size w).alloc (Nat.le_refl _) (.cells #[.string n, .string v] 40))
 have c1 := cell_alloc hc hp (.cells #[.string n, .string v] 40)
 have hd := str_beq n name
 generalize decide (n = name) = D at hd ⊢
 clear hc
 go_enter Tryz.func141, Tryz.ntmps141
 go_wp2
 go_ret
 exact ⟨rfl, HB0.out⟩

set_option maxHeartbeats 1000000 in
theorem cIndexFunc (a : Option Addr) (cap : Nat) (l : List At) (name : ByteArray) (b0 o0 : Nat) (w : World) (hR : AtRow w a l) (hz : AtSz 1048576 l) (hn : l.length <= 1048576) (hm : name.size <= 1048576)
  (hp : b0 < w.heap.size) (hc : w.cell? ⟨b0, o0, none⟩ = some (.string name)) :
  Calls Tryz.prog 140 #[.slice a l.length cap, .func (.func 141) #[] #[.pointer (some ⟨b0, o0, none⟩)]] w fun e w' => ∃ r : Int, e = .returned (.int .i64 r) /\ IdxIs l name r /\ Below w.heap.size w w' := by
 have HR := hid hR
 have HZ := hid hz
 have HC := hid hc
 have HP := hid hp
 clear hR hz hc hp
 obtain ⟨n, hnn⟩ : ∃ n, l.length = n := ⟨_, rfl⟩
 have HN := hid hnn
 rw [hnn] at hn ⊢
 clear hnn
 go_enter Tryz.func140, Tryz.ntmps140
 go_wp2
 go_loopw [8] (fun k wr => ∃ i : Nat, k = .int .i64 (i : Int) /\ i <= n /\ Hid (∀ x ∈ l.take i, ¬ x.name = name) /\ Hid (Below w.heap.size w wr)) (fun k _ => n - (intOf k).toNat)
 case atStart => exact ⟨0, rfl, Nat.zero_le _, fun x hx => by simp at hx, Below.refl _ _⟩
 case round =>
  obtain ⟨i, rfl, hi, HO, HB⟩ := hrel
  by_cases hlt : i < n
  ·have his : i < l.length := by rw [HN.out]; exact hlt
   obtain ⟨b, o, rfl, hb, c1, c2⟩ := HR.out.below HB.out i his
   have hin : (i : Int) < (n : Int) := by omega
   have HT := hid (take_snocN his)
   have z1 := (HZ.out _ (List.getElem_mem his)).1
   have HS := hid HB.out.size
   have HCr := hid ((HB.out.cell (p := ⟨b0, o0, none⟩) HP.out).trans HC.out)
   have C := hid (cAttrAt1 l[i].name l[i].value name b0 o0 wr (Nat.lt_of_lt_of_le HP.out HS.out) HCr.out z1 hm)
   by_cases hq : l[i].name = name
   ·have HI := hid (show IdxIs l name (i : Int) from .inr ⟨i, his, rfl, hq, HO.out⟩)
    have e0 : decide (l[i].name = name) = true := decide_eq_true hq
    rw [e0] at C
    generalize l[i].name = x at *
    generalize l[i].value = y at *
    clear hq e0
    go_wp2_with fail
    refine C.out.mono ?_
    rintro e w1 ⟨rfl, hb1⟩
    have HB1 := hid (bb HB.out hb1)
    go_wp2
    go_ret
    exact ⟨_, rfl, HI.out, HB1.out⟩
   ·have HO2 := hid (show ∀ x ∈ l.take (i + 1), ¬ x.name = name by
     rw [HT.out]
     intro x hx
     rcases List.mem_append.1 hx with h | h
     ·exact HO.out x h
     ·rw [List.mem_singleton] at h
      subst h
      exact hq)
    have e0 : decide (l[i].name = name) = false := decide_eq_false hq
    rw [e0] at C
    generalize l[i].name = x at *
    generalize l[i].value = y at *
    clear hq e0
    go_wp2_with fail
    refine C.out.mono ?_
    rintro e w1 ⟨rfl, hb1⟩
    have HB1 := hid (bb HB.out hb1)
    go_wp2
    go_roundw
    case rel => exact ⟨i + 1, by go_num, by omega, HO2.out, HB1.out⟩
    case measure => simp [intOf]; omega
  ·have hie : i = n := by omega
   subst hie
   have h1 := HO.out
   rw [List.take_of_length_le (by rw [HN.out]; exact Nat.le_refl _)] at h1
   have HI := hid (show IdxIs l name (-1) from .inl ⟨rfl, h1⟩)
   clear h1
   go_wp2
   go_ret
   exact ⟨_, rfl, HI.out, HB.out⟩

set_option maxHeartbeats 1000000 in
theorem cAttrAt (a : Option Addr) (cap : Nat) (l : List At) (name : ByteArray) (w : World) (hR : AtRow w a l) (hz : AtSz 1048576 l) (hn : l.length <= 1048576) (hm : name.size <= 1048576) :
  Calls Tryz.prog 101 #[.slice a l.length cap, .string name] w fun e w' => ∃ r : Int, e = .returned (.int .i64 r) /\ IdxIs l name r /\ Below w.heap.size w w' := by
 have hmf : ∀ (fn : Fn) (first cap : Array Value) (w : World), (Instr.makeFunc fn first cap).run Tryz.prog w = .ok (.func fn first cap) w := fun _ _ _ _ => rfl
 have HB0 := hid ((Below.refl w.heap.size w).alloc (Nat.le_refl _) (.cells #[.string name] 9))
 have C := hid (cIndexFunc a cap l name w.heap.size 0 (w.alloc (.cells #[.string name] 9)) (hR.below HB0.out) hz hn hm (by simp) (by simp [go_sem]))
 clear hR hz
 generalize l.length = n at *
 go_enter Tryz.func101, Tryz.ntmps101
 go_wp2_with fail
 refine C.out.mono ?_
 rintro e w1 ⟨r, rfl, hr, hb1⟩
 have HI := hid hr
 have HB1 := hid (bb HB0.out hb1)
 clear hr hb1
 go_wp2
 go_ret
 exact ⟨_, rfl, HI.out, HB1.out⟩

set_option maxHeartbeats 1000000 in
theorem cValueInI (a : Option Addr) (cap : Nat) (l : List At) (name : ByteArray) (w : World) (hR : AtRow w a l) (hz : AtSz 1048576 l) (hn : l.length <= 1048576) (hm : name.size <= 1048576) :
  Calls Tryz.prog 85 #[.slice a l.length cap, .string name] w fun e w' => e = .returned (.tuple #[.string ((valF l name).getD ByteArray.empty), .bool (valF l name).isSome]) /\ Below w.heap.size w w' := by
 have C := hid (cAttrAt a cap l name w hR hz hn hm)
 have HR := hid hR
 have HZ := hid hz
 obtain ⟨V, hV⟩ : ∃ V, valF l name = V := ⟨_, rfl⟩
 have HV := hid hV
 rw [hV]
 clear hR hz hV
 obtain ⟨n, hnn⟩ : ∃ n, l.length = n := ⟨_, rfl⟩
 have HN := hid hnn
 rw [hnn] at hn C ⊢
 clear hnn
 go_enter Tryz.func85, Tryz.ntmps85
 go_wp2_with fail
 refine C.out.mono ?_
 rintro e w1 ⟨r, rfl, hr, hb1⟩
 have HB1 := hid hb1
 rcases hr with ⟨rfl, h1⟩ | ⟨i, hi, rfl, hq, h1⟩
 ·have hv := valF_none h1
  rw [HV.out] at hv
  have HW := hid hv
  clear h1 hv hb1 C
  go_wp2
  go_ret2
  exact ⟨by rw [HW.out]; rfl, HB1.out⟩
 ·have hv := valF_at hi h1 hq
  rw [HV.out] at hv
  have HW := hid hv
  obtain ⟨b, o, rfl, hb, c1, c2⟩ := HR.out.below HB1.out i hi
  have hin : (i : Int) < (n : Int) := by have := HN.out; omega
  have z2 := (HZ.out _ (List.getElem_mem hi)).2
  have CC := fun w => c_strings_Clone l[i].value w z2
  clear h1 hv hb1 C hq
  generalize l[i].name = x at *
  generalize l[i].value = y at *
  go_wp2_with fail
  refine (CC _).mono ?_
  rintro e w2 ⟨rfl, hb2⟩
  have HB2 := hid (bb HB1.out hb2)
  clear hb2 CC
  go_wp2
  go_ret2
  exact ⟨by rw [HW.out]; rfl, HB2.out⟩

end Go.Proofs.YtlpbbkaelbafdaaGreatDoor
