/-  -/
import Derived.Test.YtlpbbkaelbafdaaGreatDoorM17
import Derived.Test.YtlpbbkaelbafdaaGreatDoorM15
import Derived.Test.YtlpbbkaelbafdaaGreatDoorM16
import Derived.Test.YtlpbbkaelbafdaaGreatDoorM10
import Derived.Test.YtlpbbkaelbafdaaGreatDoorM9
import Derived.Test.YtlpbbkaelbafdaaGreatDoorM8
import Derived.Deep.RegionWith
import Derived.Deep.RegionHeld3
set_option linter.unusedVariables false
set_option linter.unusedSimpArgs false
namespace Go.Proofs.YtlpbbkaelbafdaaGreatDoor
open Go.RowKit

set_option maxHeartbeats 4000000 in
theorem cNumbers_no (u : ByteArray) (w : World) (hu : ¬ u.size = 20) :
  Calls Tryz.prog 167 #[.string u] w fun e w' => e = .returned (.tuple #[.agg (cellsN fun _ => 0), .bool false]) /\ Below w.heap.size w w' := by
 have hul : ¬ (u.size : Int) = 20 := by omega
 go_enter Tryz.func167, Tryz.ntmps167
 go_wp2_with fail
 refine bodyPost_ret (v := .tuple #[.agg (cellsN fun _ => 0), .bool false]) ?_ rfl ⟨rfl, ?_⟩
 ·exact res_row w (fun _ => 0) (fun _ => 0) _ _ rfl rfl
 ·exact ((Below.refl _ _).alloc (Nat.le_refl _) _).alloc (by simp) _

theorem field_len (l : List UInt8) (q : Nat) : (fieldL l q).length <= 4 := by
 unfold fieldL
 have := (wid_le q).1
 simp
 omega

theorem rd_small (l : List UInt8) (q : Nat) : rdI (fieldL l q) < 10000 := by
 have h1 := (rdI_bounds (fieldL l q)).2
 have h2 : (10 : Nat) ^ (fieldL l q).length <= 10 ^ 4 := Nat.pow_le_pow_right (by decide) (field_len l q)
 have h3 : ((10 ^ (fieldL l q).length : Nat) : Int) = (10 : Int) ^ (fieldL l q).length := by simp
 have h4 : (10 : Nat) ^ 4 = 10000 := by decide
 omega

theorem cOfI_no20 (u : ByteArray) (w : World) (hu : ¬ u.size = 20) :
  Calls Tryz.prog 145 #[.string u] w fun e w' => e = .returned (.tuple #[.int .i64 0, .bool false]) /\ Below w.heap.size w w' := by
 have C := cNumbers_no u w hu
 unfold cellsN at C
 clear hu
 go_enter Tryz.func145, Tryz.ntmps145
 go_wp2_with fail
 refine C.mono ?_
 rintro e w1 ⟨rfl, hb1⟩
 go_wp2_with fail
 go_ret2
 exact ⟨rfl, hb1.alloc hb1.size _⟩

theorem cell6 {w1 W : World} {b0 b1 b2 b3 b4 b5 : Int} (hb : Below (w1.heap.size + 1) (w1.alloc (.cells #[.int .i64 b0, .int .i64 b1, .int .i64 b2, .int .i64 b3, .int .i64 b4, .int .i64 b5] 166)) W) :
  W.cell? ⟨w1.heap.size, 0, none⟩ = some (.int .i64 b0) /\ W.cell? ⟨w1.heap.size, 1, none⟩ = some (.int .i64 b1) /\ W.cell? ⟨w1.heap.size, 2, none⟩ = some (.int .i64 b2) /\ W.cell? ⟨w1.heap.size, 3, none⟩ = some (.int .i64 b3) /\ W.cell? ⟨w1.heap.size, 4, none⟩ = some (.int .i64 b4) /\ W.cell? ⟨w1.heap.size, 5, none⟩ = some (.int .i64 b5) := by
 have hh : W.heap[w1.heap.size]? = some (.cells #[.int .i64 b0, .int .i64 b1, .int .i64 b2, .int .i64 b3, .int .i64 b4, .int .i64 b5] 166 (0, 0)) := by
  rw [hb.block _ (by omega)]
  exact heap_alloc_last w1 _
 refine ⟨?_, ?_, ?_, ?_, ?_, ?_⟩ <;> (rw [cell_of_row _ _ _ _ _ _ hh]; rfl)

set_option maxHeartbeats 8000000 in
set_option maxRecDepth 4000 in
theorem cOfI_20 (u : ByteArray) (w : World) (hu : u.size = 20) (hL : Laid w) :
  Calls Tryz.prog 145 #[.string u] w fun e w' => e = .returned (.tuple #[.int .i64 (timeOf u.data.toList).1, .bool (timeOf u.data.toList).2]) /\ Below w.heap.size w w' := by
 have HL : Hid (Laid w) := hL
 have HU : Hid (u.size = 20) := hu
 have C := cNumbers u w hu
 obtain ⟨l, hl⟩ : ∃ l, u.data.toList = l := ⟨_, rfl⟩
 have Hl : Hid (u.data.toList = l) := hl
 rw [hl] at C ⊢
 obtain ⟨T, hT⟩ : ∃ T : Int × Bool, timeOf l = T := ⟨_, rfl⟩
 have HT : Hid (timeOf l = T) := hT
 rw [hT]
 obtain ⟨T1, T2⟩ := T
 clear hl hT hu hL
 go_enter Tryz.func145, Tryz.ntmps145
 go_wp2_with fail
 refine C.mono ?_
 rintro e w1 ⟨g, ok, rfl, hok, hno, hb1⟩
 unfold cellsN
 cases ok
 ·obtain ⟨q, hq, hr⟩ := hno rfl
  have hbad := timeOf_bad (l := l) (fun h => by
   obtain ⟨⟨k, m, _, _, _, h0, h1, h2, _⟩, h3, h4, h5⟩ := h
   rcases (show q = 0 \/ q = 1 \/ q = 2 \/ q = 3 \/ q = 4 \/ q = 5 by omega) with rfl | rfl | rfl | rfl | rfl | rfl <;> omega)
  rw [HT.out] at hbad
  cases hbad
  clear hok hno hr HT
  go_wp2_with fail
  go_ret2
  exact ⟨rfl, hb1.alloc hb1.size _⟩
 ·replace hok := hok rfl
  obtain ⟨e0, p0⟩ := hok 0 (by omega)
  obtain ⟨e1, p1⟩ := hok 1 (by omega)
  obtain ⟨e2, p2⟩ := hok 2 (by omega)
  obtain ⟨e3, p3⟩ := hok 3 (by omega)
  obtain ⟨e4, p4⟩ := hok 4 (by omega)
  obtain ⟨e5, p5⟩ := hok 5 (by omega)
  have s2 := rd_small l 2
  have s3 := rd_small l 3
  have s4 := rd_small l 4
  have s5 := rd_small l 5
  rw [<- e2] at s2
  rw [<- e3] at s3
  rw [<- e4] at s4
  rw [<- e5] at s5
  clear hok hno
  generalize g 0 = b0 at *
  generalize g 1 = b1 at *
  generalize g 2 = b2 at *
  generalize g 3 = b3 at *
  generalize g 4 = b4 at *
  generalize g 5 = b5 at *
  obtain ⟨w2, hw2⟩ : ∃ w2, w1.alloc (.cells #[.int .i64 b0, .int .i64 b1, .int .i64 b2, .int .i64 b3, .int .i64 b4, .int .i64 b5] 166) = w2 := ⟨_, rfl⟩
  have hB2 : Below w.heap.size w w2 := by rw [<- hw2]; exact hb1.alloc hb1.size _
  have hz2 : w2.heap.size = w1.heap.size + 1 := by rw [<- hw2]; simp
  have K : ∀ W, Below w2.heap.size w2 W -> _ := fun W hb => cell6 (w1 := w1) (W := W) (b0 := b0) (b1 := b1) (b2 := b2) (b3 := b3) (b4 := b4) (b5 := b5) (by rw [hw2, <- hz2]; exact hb)
  have CD := cDaysI b0 b1 w2 (HL.out.below hB2).1
  have HW2 : Hid (w1.alloc (.cells #[.int .i64 b0, .int .i64 b1, .int .i64 b2, .int .i64 b3, .int .i64 b4, .int .i64 b5] 166) = w2) := hw2
  by_cases hin : (2000 <= b0 /\ b0 <= 2099) /\ (1 <= b1 /\ b1 <= 12)
  ·obtain ⟨k, hk0⟩ : ∃ k : Nat, b0 = (2000 + k : Nat) := ⟨b0.toNat - 2000, by omega⟩
   obtain ⟨m, hm0⟩ : ∃ m : Nat, b1 = m := ⟨b1.toNat, by omega⟩
   have hk : k < 100 := by omega
   have hm1 : 1 <= m := by omega
   have hm2 : m <= 12 := by omega
   have hcand := timeOf_cand (l := l) hk (by rw [<- e0, hk0]; omega) (by rw [<- e1, hm0]) e2.symm e3.symm e4.symm e5.symm (by rw [<- Hl.out, <- t_sz]; exact HU.out)
   unfold cand at hcand
   rw [HT.out] at hcand
   have CA := fun W hM => cAhead k m W hk hm1 hm2 hM
   rw [<- hk0, <- hm0] at CA
   rw [hk0, hm0, daysIn_in k m hk hm1 hm2, <- hk0, <- hm0] at CD
   have hD1 : 28 <= dm (lp k) m := (dm_pos _ _ hm1 hm2).1
   have hSb : yb k + mb (lp k) m <= 40000 := by
    have h1 := mb_lt_13 (lp k) m hm1 hm2
    have h2 : yb k <= 36525 := by unfold yb; omega
    have h3 : lp k <= 1 := by unfold lp; split <;> omega
    omega
   generalize dm (lp k) m = D at *
   generalize yb k + mb (lp k) m = S at *
   obtain ⟨c, hc⟩ : ∃ c : Int, ((S : Int) + b2 - 1) * 86400 + b3 * 3600 + b4 * 60 + b5 = c := ⟨_, rfl⟩
   rw [hc] at hcand
   have r1 : IntKind.i64.wrap ((S : Int) + b2) = (S : Int) + b2 := IntWalk.i64_in _ (by omega)
   have r2 : IntKind.i64.wrap ((S : Int) + b2 - 1) = (S : Int) + b2 - 1 := IntWalk.i64_in _ (by omega)
   obtain ⟨ds, hds⟩ : ∃ ds : Int, (S : Int) + b2 - 1 = ds := ⟨_, rfl⟩
   rw [hds] at r2 hc
   have hds1 : -1 <= ds := by omega
   have hds2 : ds <= 60000 := by omega
   have r3 : IntKind.i64.wrap (ds * 86400) = ds * 86400 := IntWalk.i64_in _ (by omega)
   have r4 : IntKind.i64.wrap (b3 * 3600) = b3 * 3600 := IntWalk.i64_in _ (by omega)
   have r5 : IntKind.i64.wrap (ds * 86400 + b3 * 3600) = ds * 86400 + b3 * 3600 := IntWalk.i64_in _ (by omega)
   have r6 : IntKind.i64.wrap (b4 * 60) = b4 * 60 := IntWalk.i64_in _ (by omega)
   have r7 : IntKind.i64.wrap (ds * 86400 + b3 * 3600 + b4 * 60) = ds * 86400 + b3 * 3600 + b4 * 60 := IntWalk.i64_in _ (by omega)
   have r8 : IntKind.i64.wrap (ds * 86400 + b3 * 3600 + b4 * 60 + b5) = ds * 86400 + b3 * 3600 + b4 * 60 + b5 := IntWalk.i64_in _ (by omega)
   have hDi : ((D : Int) == 0) = false := by rw [beq_eq_false_iff_ne]; omega
   have HB2 : Hid (Below w.heap.size w w2) := hB2
   have HK : Hid (∀ W, Below w2.heap.size w2 W -> _) := K
   have HCd : Hid ((T1, T2) = if textOf c = l then (c, true) else (0, false)) := hcand
   have HC : Hid (ds * 86400 + b3 * 3600 + b4 * 60 + b5 = c) := hc
   clear hw2 hz2 K hin e0 e1 e2 e3 e4 e5 p0 p1 hcand HT hB2 hc hk0 hm0 hk hm1 hm2 hSb hD1
   go_wp2_with fail
   rw [HW2.out]
   refine CD.mono ?_
   rintro e w3 ⟨rfl, hb3⟩
   have HB3 : Hid (Below w2.heap.size w2 w3) := hb3
   have hM3 : Mon w3 := ((HL.out.below HB2.out).1).below hb3
   have HM3 : Hid (Mon w3.drew) := hM3.below ((Below.refl _ _).drew)
   obtain ⟨k0, k1, k2, k3, k4, k5⟩ := HK.out w3 hb3
   clear hb3 hM3 CD
   go_wp2_with fail
   go_region_with (go_at_call 168; refine (CA _ HM3.out).mono ?_; rintro e w4 ⟨rfl, hb4⟩; have hb24 : Below w2.heap.size w2 w4 := ((HB3.out).drew).trans (hb4.mono HB3.out.size); obtain ⟨j0, j1, j2, j3, j4, j5⟩ := HK.out w4 hb24; have HB24 : Hid (Below w2.heap.size w2 w4) := hb24; clear hb4 hb24)
   all_goals
    clear CA r1 hds1 hds2
    have CT := cTextI c w4 ((HL.out.below HB2.out).below HB24.out)
    have hBw := HB2.out.trans (HB24.out.mono HB2.out.size)
    have hcd := HCd.out
    rw [<- HC.out] at CT
    by_cases hcc : textOf c = l
    ·rw [if_pos hcc, <- HC.out] at hcd
     rw [HC.out] at CT
     rw [hcc, <- Hl.out] at CT
     rw [<- HC.out] at CT
     cases hcd
     go_wp2_with fail
     refine CT.mono ?_
     rintro e w5 ⟨rfl, hb5⟩
     go_wp2_with fail
     go_ret2
     exact ⟨rfl, hBw.trans (hb5.mono hBw.size)⟩
    ·rw [if_neg hcc] at hcd
     cases hcd
     obtain ⟨X, hX⟩ : ∃ X : ByteArray, (⟨(textOf c).toArray⟩ : ByteArray) = X := ⟨_, rfl⟩
     have hne : (X.toList == u.toList) = false := by
      rw [ByteArray.toList_eq, ByteArray.toList_eq, <- hX, Hl.out]
      rw [beq_eq_false_iff_ne]
      exact hcc
     rw [HC.out, hX, <- HC.out] at CT
     clear hX
     go_wp2_with fail
     refine CT.mono ?_
     rintro e w5 ⟨rfl, hb5⟩
     go_wp2_with fail
     go_ret2
     exact ⟨rfl, hBw.trans (hb5.mono hBw.size)⟩
  ·rw [show daysIn b0 b1 = 0 from if_neg hin] at CD
   have hbad := timeOf_bad (l := l) (fun h => by
    obtain ⟨⟨k, m, _, _, _, h0, h1, h2, _⟩, h3, h4, h5⟩ := h
    omega)
   rw [HT.out] at hbad
   cases hbad
   have hB2s := hB2
   clear hw2 hz2 K hin e0 e1 e2 e3 e4 e5 p0 p1 p2 p3 p4 p5 s2 s3 s4 s5 HT hB2
   go_wp2_with fail
   rw [HW2.out]
   refine CD.mono ?_
   rintro e w3 ⟨rfl, hb3⟩
   go_wp2_with fail
   go_ret2
   exact ⟨rfl, hB2s.trans (hb3.mono hB2s.size)⟩

theorem cOfI (u : ByteArray) (w : World) (hL : Laid w) :
  Calls Tryz.prog 145 #[.string u] w fun e w' => e = .returned (.tuple #[.int .i64 (timeOf u.data.toList).1, .bool (timeOf u.data.toList).2]) /\ Below w.heap.size w w' := by
 by_cases h : u.size = 20
 ·exact cOfI_20 u w h hL
 ·rw [timeOf_len (by rw [<- t_sz]; exact h)]
  exact cOfI_no20 u w h

end Go.Proofs.YtlpbbkaelbafdaaGreatDoor

namespace Go.Proofs.YtlpbbkaelbafdaaGreatDoor
open Go.RowKit

def ClH (w : World) (bc : Nat) (c : Cm) (v : Value) : Prop := w.heap[bc]? = some (.cells #[.string c.id, .string c.iss, .string c.sub, .int .i64 c.frm, .int .i64 c.til, .string c.whom, .string c.ans, v] 26 (0, 0))

theorem sz0 (x : ByteArray) : decide (x.size = 0) = decide (x = ByteArray.empty) :=
 decide_eq_decide.mpr ⟨fun h => ByteArray.ext (Array.eq_empty_of_size_eq_zero h), fun h => by subst h; rfl⟩

set_option maxRecDepth 8000 in
set_option maxHeartbeats 4000000 in
theorem cHeard1 (b bc : Nat) (T : TypeId) (c : Cm) (v : Value) (a1 : Option Addr) (n1 c1 : Nat) (tx : ByteArray) (w : World) (hb : w.heap[b]? = some (.cells #[.func (.func 64) #[] #[]] T (0, 0))) (hc : ClH w bc c v) (hne : ¬ b = bc) :
  Calls Tryz.prog 112 #[.pointer (some ⟨bc, 0, none⟩), .agg #[.slice a1 n1 c1, .string tx], .pointer (some ⟨b, 0, none⟩)] w fun e w' => e = .returned (.bool (!decide (tx.size = 0))) /\ ClH w' bc { c with iss := tx } v /\ KeepB (fun k => k = bc) w w' := by
 have CF := hid (fun wx => cField1 bc wx)
 have HB0 := hid ((Below.refl w.heap.size w).alloc (Nat.le_refl _) (.cells #[.slice a1 n1 c1, .string tx] 54))
 have M0 := hid (heap_alloc_new w (.cells #[.slice a1 n1 c1, .string tx] 54))
 have MB := hid (blk_alloc hb (.cells #[.slice a1 n1 c1, .string tx] 54))
 have MC := hid (show ClH (w.alloc (.cells #[.slice a1 n1 c1, .string tx] 54)) bc c v from blk_alloc hc _)
 obtain ⟨w0, hw0⟩ : ∃ w0, w.alloc (.cells #[.slice a1 n1 c1, .string tx] 54) = w0 := ⟨_, rfl⟩
 rw [hw0] at HB0 M0 MB MC
 have hsb : ¬ w.heap.size = bc := fun e => by have := lt_of_heap hc; omega
 obtain ⟨sb, hs⟩ : ∃ g, w.heap.size = g := ⟨_, rfl⟩
 rw [hs] at M0 hsb
 obtain ⟨⟨p0, p1, p2, p3, p4, p5, p6, p7⟩, pf0, pf1, pf2, pf3, pf4, pf5, pf6, pf7⟩ := box8 MC.out
 have HM := hid (show ClH (w0.setCell ⟨bc, 1, none⟩ (.string tx)) bc { c with iss := tx } v from heap_setCell_same w0 bc 1 _ _ (.string tx) MC.out)
 have HK := hid ((KeepB.of_below (fun k => k = bc) HB0.out).trans (KeepB.of_set (p := fun k => k = bc) w0 1 (.string tx) rfl))
 have HS0 := hid (show w0.drew.cell? ⟨b, 0, none⟩ = some (.func (.func 64) #[] #[]) /\ w0.drew.cell? ⟨sb, 1, none⟩ = some (.string tx) from ⟨by rw [Lib.cell_of_heap (w := w0.drew) MB.out]; rfl, by rw [Lib.cell_of_heap (w := w0.drew) M0.out]; rfl⟩)
 have HS1 := hid (show (w0.drew.setCell ⟨bc, 1, none⟩ (.string tx)).cell? ⟨b, 0, none⟩ = some (.func (.func 64) #[] #[]) /\ (w0.drew.setCell ⟨bc, 1, none⟩ (.string tx)).cell? ⟨sb, 1, none⟩ = some (.string tx) from ⟨by rw [Lib.cell_of_heap ((Below.heap_setCell w0.drew ⟨bc, 1, none⟩ (.string tx) b hne).trans MB.out)]; rfl, by rw [Lib.cell_of_heap ((Below.heap_setCell w0.drew ⟨bc, 1, none⟩ (.string tx) sb hsb).trans M0.out)]; rfl⟩)
 clear hb hc
 go_enter Tryz.func112, Tryz.ntmps112
 go_wp2_with fail
 go_region_held3 (fun w' => w'.cell? ⟨b, 0, none⟩ = some (.func (.func 64) #[] #[]) /\ w'.cell? ⟨sb, 1, none⟩ = some (.string tx)) (first | exact HS0.out | exact HS1.out)
  (first
   | (go_at_call 64; refine (CF.out _).mono ?_; rintro e w1 ⟨rfl, hw1⟩; subst hw1))
 have z1 : (w0.setCell ⟨bc, 1, none⟩ (.string tx)).drew.cell? ⟨sb, 1, none⟩ = some (.string tx) := HS1.out.2
 clear p0 p1 p2 p3 p4 p5 p6 p7 pf0 pf1 pf2 pf3 pf4 pf5 pf6 pf7 hw0 HS0 HS1 CF
 go_wp2_with fail
 go_ret
 exact ⟨by first | rfl | simp [empty_is tx], HM.out, HK.out.drew⟩

set_option maxRecDepth 8000 in
set_option maxHeartbeats 4000000 in
theorem cHeard2 (b bc : Nat) (T : TypeId) (c : Cm) (v : Value) (a1 : Option Addr) (n1 c1 : Nat) (tx : ByteArray) (w : World) (hb : w.heap[b]? = some (.cells #[.func (.func 65) #[] #[]] T (0, 0))) (hc : ClH w bc c v) (hne : ¬ b = bc) :
  Calls Tryz.prog 112 #[.pointer (some ⟨bc, 0, none⟩), .agg #[.slice a1 n1 c1, .string tx], .pointer (some ⟨b, 0, none⟩)] w fun e w' => e = .returned (.bool (!decide (tx.size = 0))) /\ ClH w' bc { c with sub := tx } v /\ KeepB (fun k => k = bc) w w' := by
 have CF := hid (fun wx => cField2 bc wx)
 have HB0 := hid ((Below.refl w.heap.size w).alloc (Nat.le_refl _) (.cells #[.slice a1 n1 c1, .string tx] 54))
 have M0 := hid (heap_alloc_new w (.cells #[.slice a1 n1 c1, .string tx] 54))
 have MB := hid (blk_alloc hb (.cells #[.slice a1 n1 c1, .string tx] 54))
 have MC := hid (show ClH (w.alloc (.cells #[.slice a1 n1 c1, .string tx] 54)) bc c v from blk_alloc hc _)
 obtain ⟨w0, hw0⟩ : ∃ w0, w.alloc (.cells #[.slice a1 n1 c1, .string tx] 54) = w0 := ⟨_, rfl⟩
 rw [hw0] at HB0 M0 MB MC
 have hsb : ¬ w.heap.size = bc := fun e => by have := lt_of_heap hc; omega
 obtain ⟨sb, hs⟩ : ∃ g, w.heap.size = g := ⟨_, rfl⟩
 rw [hs] at M0 hsb
 obtain ⟨⟨p0, p1, p2, p3, p4, p5, p6, p7⟩, pf0, pf1, pf2, pf3, pf4, pf5, pf6, pf7⟩ := box8 MC.out
 have HM := hid (show ClH (w0.setCell ⟨bc, 2, none⟩ (.string tx)) bc { c with sub := tx } v from heap_setCell_same w0 bc 2 _ _ (.string tx) MC.out)
 have HK := hid ((KeepB.of_below (fun k => k = bc) HB0.out).trans (KeepB.of_set (p := fun k => k = bc) w0 2 (.string tx) rfl))
 have HS0 := hid (show w0.drew.cell? ⟨b, 0, none⟩ = some (.func (.func 65) #[] #[]) /\ w0.drew.cell? ⟨sb, 1, none⟩ = some (.string tx) from ⟨by rw [Lib.cell_of_heap (w := w0.drew) MB.out]; rfl, by rw [Lib.cell_of_heap (w := w0.drew) M0.out]; rfl⟩)
 have HS1 := hid (show (w0.drew.setCell ⟨bc, 2, none⟩ (.string tx)).cell? ⟨b, 0, none⟩ = some (.func (.func 65) #[] #[]) /\ (w0.drew.setCell ⟨bc, 2, none⟩ (.string tx)).cell? ⟨sb, 1, none⟩ = some (.string tx) from ⟨by rw [Lib.cell_of_heap ((Below.heap_setCell w0.drew ⟨bc, 2, none⟩ (.string tx) b hne).trans MB.out)]; rfl, by rw [Lib.cell_of_heap ((Below.heap_setCell w0.drew ⟨bc, 2, none⟩ (.string tx) sb hsb).trans M0.out)]; rfl⟩)
 clear hb hc
 go_enter Tryz.func112, Tryz.ntmps112
 go_wp2_with fail
 go_region_held3 (fun w' => w'.cell? ⟨b, 0, none⟩ = some (.func (.func 65) #[] #[]) /\ w'.cell? ⟨sb, 1, none⟩ = some (.string tx)) (first | exact HS0.out | exact HS1.out)
  (first
   | (go_at_call 65; refine (CF.out _).mono ?_; rintro e w1 ⟨rfl, hw1⟩; subst hw1))
 have z1 : (w0.setCell ⟨bc, 2, none⟩ (.string tx)).drew.cell? ⟨sb, 1, none⟩ = some (.string tx) := HS1.out.2
 clear p0 p1 p2 p3 p4 p5 p6 p7 pf0 pf1 pf2 pf3 pf4 pf5 pf6 pf7 hw0 HS0 HS1 CF
 go_wp2_with fail
 go_ret
 exact ⟨by first | rfl | simp [empty_is tx], HM.out, HK.out.drew⟩

set_option maxRecDepth 8000 in
set_option maxHeartbeats 4000000 in
theorem cHeard3 (b bc : Nat) (T : TypeId) (c : Cm) (v : Value) (a1 : Option Addr) (n1 c1 : Nat) (tx : ByteArray) (w : World) (hb : w.heap[b]? = some (.cells #[.func (.func 68) #[] #[]] T (0, 0))) (hc : ClH w bc c v) (hne : ¬ b = bc) :
  Calls Tryz.prog 112 #[.pointer (some ⟨bc, 0, none⟩), .agg #[.slice a1 n1 c1, .string tx], .pointer (some ⟨b, 0, none⟩)] w fun e w' => e = .returned (.bool (!decide (tx.size = 0))) /\ ClH w' bc { c with whom := tx } v /\ KeepB (fun k => k = bc) w w' := by
 have CF := hid (fun wx => cField3 bc wx)
 have HB0 := hid ((Below.refl w.heap.size w).alloc (Nat.le_refl _) (.cells #[.slice a1 n1 c1, .string tx] 54))
 have M0 := hid (heap_alloc_new w (.cells #[.slice a1 n1 c1, .string tx] 54))
 have MB := hid (blk_alloc hb (.cells #[.slice a1 n1 c1, .string tx] 54))
 have MC := hid (show ClH (w.alloc (.cells #[.slice a1 n1 c1, .string tx] 54)) bc c v from blk_alloc hc _)
 obtain ⟨w0, hw0⟩ : ∃ w0, w.alloc (.cells #[.slice a1 n1 c1, .string tx] 54) = w0 := ⟨_, rfl⟩
 rw [hw0] at HB0 M0 MB MC
 have hsb : ¬ w.heap.size = bc := fun e => by have := lt_of_heap hc; omega
 obtain ⟨sb, hs⟩ : ∃ g, w.heap.size = g := ⟨_, rfl⟩
 rw [hs] at M0 hsb
 obtain ⟨⟨p0, p1, p2, p3, p4, p5, p6, p7⟩, pf0, pf1, pf2, pf3, pf4, pf5, pf6, pf7⟩ := box8 MC.out
 have HM := hid (show ClH (w0.setCell ⟨bc, 5, none⟩ (.string tx)) bc { c with whom := tx } v from heap_setCell_same w0 bc 5 _ _ (.string tx) MC.out)
 have HK := hid ((KeepB.of_below (fun k => k = bc) HB0.out).trans (KeepB.of_set (p := fun k => k = bc) w0 5 (.string tx) rfl))
 have HS0 := hid (show w0.drew.cell? ⟨b, 0, none⟩ = some (.func (.func 68) #[] #[]) /\ w0.drew.cell? ⟨sb, 1, none⟩ = some (.string tx) from ⟨by rw [Lib.cell_of_heap (w := w0.drew) MB.out]; rfl, by rw [Lib.cell_of_heap (w := w0.drew) M0.out]; rfl⟩)
 have HS1 := hid (show (w0.drew.setCell ⟨bc, 5, none⟩ (.string tx)).cell? ⟨b, 0, none⟩ = some (.func (.func 68) #[] #[]) /\ (w0.drew.setCell ⟨bc, 5, none⟩ (.string tx)).cell? ⟨sb, 1, none⟩ = some (.string tx) from ⟨by rw [Lib.cell_of_heap ((Below.heap_setCell w0.drew ⟨bc, 5, none⟩ (.string tx) b hne).trans MB.out)]; rfl, by rw [Lib.cell_of_heap ((Below.heap_setCell w0.drew ⟨bc, 5, none⟩ (.string tx) sb hsb).trans M0.out)]; rfl⟩)
 clear hb hc
 go_enter Tryz.func112, Tryz.ntmps112
 go_wp2_with fail
 go_region_held3 (fun w' => w'.cell? ⟨b, 0, none⟩ = some (.func (.func 68) #[] #[]) /\ w'.cell? ⟨sb, 1, none⟩ = some (.string tx)) (first | exact HS0.out | exact HS1.out)
  (first
   | (go_at_call 68; refine (CF.out _).mono ?_; rintro e w1 ⟨rfl, hw1⟩; subst hw1))
 have z1 : (w0.setCell ⟨bc, 5, none⟩ (.string tx)).drew.cell? ⟨sb, 1, none⟩ = some (.string tx) := HS1.out.2
 clear p0 p1 p2 p3 p4 p5 p6 p7 pf0 pf1 pf2 pf3 pf4 pf5 pf6 pf7 hw0 HS0 HS1 CF
 go_wp2_with fail
 go_ret
 exact ⟨by first | rfl | simp [empty_is tx], HM.out, HK.out.drew⟩

set_option maxRecDepth 8000 in
set_option maxHeartbeats 4000000 in
theorem cHeard4 (b bc : Nat) (T : TypeId) (c : Cm) (v : Value) (a1 : Option Addr) (n1 c1 : Nat) (tx : ByteArray) (w : World) (hb : w.heap[b]? = some (.cells #[.func (.func 69) #[] #[]] T (0, 0))) (hc : ClH w bc c v) (hne : ¬ b = bc) :
  Calls Tryz.prog 112 #[.pointer (some ⟨bc, 0, none⟩), .agg #[.slice a1 n1 c1, .string tx], .pointer (some ⟨b, 0, none⟩)] w fun e w' => e = .returned (.bool (!decide (tx.size = 0))) /\ ClH w' bc { c with ans := tx } v /\ KeepB (fun k => k = bc) w w' := by
 have CF := hid (fun wx => cField4 bc wx)
 have HB0 := hid ((Below.refl w.heap.size w).alloc (Nat.le_refl _) (.cells #[.slice a1 n1 c1, .string tx] 54))
 have M0 := hid (heap_alloc_new w (.cells #[.slice a1 n1 c1, .string tx] 54))
 have MB := hid (blk_alloc hb (.cells #[.slice a1 n1 c1, .string tx] 54))
 have MC := hid (show ClH (w.alloc (.cells #[.slice a1 n1 c1, .string tx] 54)) bc c v from blk_alloc hc _)
 obtain ⟨w0, hw0⟩ : ∃ w0, w.alloc (.cells #[.slice a1 n1 c1, .string tx] 54) = w0 := ⟨_, rfl⟩
 rw [hw0] at HB0 M0 MB MC
 have hsb : ¬ w.heap.size = bc := fun e => by have := lt_of_heap hc; omega
 obtain ⟨sb, hs⟩ : ∃ g, w.heap.size = g := ⟨_, rfl⟩
 rw [hs] at M0 hsb
 obtain ⟨⟨p0, p1, p2, p3, p4, p5, p6, p7⟩, pf0, pf1, pf2, pf3, pf4, pf5, pf6, pf7⟩ := box8 MC.out
 have HM := hid (show ClH (w0.setCell ⟨bc, 6, none⟩ (.string tx)) bc { c with ans := tx } v from heap_setCell_same w0 bc 6 _ _ (.string tx) MC.out)
 have HK := hid ((KeepB.of_below (fun k => k = bc) HB0.out).trans (KeepB.of_set (p := fun k => k = bc) w0 6 (.string tx) rfl))
 have HS0 := hid (show w0.drew.cell? ⟨b, 0, none⟩ = some (.func (.func 69) #[] #[]) /\ w0.drew.cell? ⟨sb, 1, none⟩ = some (.string tx) from ⟨by rw [Lib.cell_of_heap (w := w0.drew) MB.out]; rfl, by rw [Lib.cell_of_heap (w := w0.drew) M0.out]; rfl⟩)
 have HS1 := hid (show (w0.drew.setCell ⟨bc, 6, none⟩ (.string tx)).cell? ⟨b, 0, none⟩ = some (.func (.func 69) #[] #[]) /\ (w0.drew.setCell ⟨bc, 6, none⟩ (.string tx)).cell? ⟨sb, 1, none⟩ = some (.string tx) from ⟨by rw [Lib.cell_of_heap ((Below.heap_setCell w0.drew ⟨bc, 6, none⟩ (.string tx) b hne).trans MB.out)]; rfl, by rw [Lib.cell_of_heap ((Below.heap_setCell w0.drew ⟨bc, 6, none⟩ (.string tx) sb hsb).trans M0.out)]; rfl⟩)
 clear hb hc
 go_enter Tryz.func112, Tryz.ntmps112
 go_wp2_with fail
 go_region_held3 (fun w' => w'.cell? ⟨b, 0, none⟩ = some (.func (.func 69) #[] #[]) /\ w'.cell? ⟨sb, 1, none⟩ = some (.string tx)) (first | exact HS0.out | exact HS1.out)
  (first
   | (go_at_call 69; refine (CF.out _).mono ?_; rintro e w1 ⟨rfl, hw1⟩; subst hw1))
 have z1 : (w0.setCell ⟨bc, 6, none⟩ (.string tx)).drew.cell? ⟨sb, 1, none⟩ = some (.string tx) := HS1.out.2
 clear p0 p1 p2 p3 p4 p5 p6 p7 pf0 pf1 pf2 pf3 pf4 pf5 pf6 pf7 hw0 HS0 HS1 CF
 go_wp2_with fail
 go_ret
 exact ⟨by first | rfl | simp [empty_is tx], HM.out, HK.out.drew⟩

set_option maxHeartbeats 4000000 in
theorem cTimeIn (a : Option Addr) (cap : Nat) (l : List At) (name : ByteArray) (w : World) (hR : AtRow w a l) (hz : AtSz 1048576 l) (hn : l.length <= 1048576) (hm : name.size <= 1048576) (hL : Laid w) :
  Calls Tryz.prog 114 #[.slice a l.length cap, .string name] w fun e w' => e = .returned (.tuple #[.int .i64 (timeOf ((valF l name).getD ByteArray.empty).data.toList).1, .bool (timeOf ((valF l name).getD ByteArray.empty).data.toList).2]) /\ Below w.heap.size w w' := by
 have CV := hid (cValueInI a cap l name w hR hz hn hm)
 have CO := hid (fun wx (h : Below w.heap.size w wx) => cOfI ((valF l name).getD ByteArray.empty) wx (hL.below h))
 clear hR hz hL
 generalize (valF l name).getD ByteArray.empty = U at *
 generalize (valF l name).isSome = s at *
 generalize timeOf U.data.toList = tu at *
 generalize l.length = n at *
 obtain ⟨x7, b7⟩ := tu
 simp only at CO ⊢
 go_enter Tryz.func114, Tryz.ntmps114
 go_wp2_with fail
 refine CV.out.mono ?_
 rintro e w1 ⟨rfl, hb1⟩
 have HB1 := hid hb1
 clear hb1
 go_wp2_with fail
 refine (CO.out _ HB1.out).mono ?_
 rintro e w2 ⟨rfl, hb2⟩
 have HB2 := hid (bb HB1.out hb2)
 clear hb2
 go_wp2_with fail
 go_ret2
 exact ⟨rfl, HB2.out⟩

end Go.Proofs.YtlpbbkaelbafdaaGreatDoor

namespace Go.Proofs.YtlpbbkaelbafdaaGreatDoor
open Go.RowKit

set_option maxRecDepth 8000 in
set_option maxHeartbeats 4000000 in
theorem cTermHeard (bc : Nat) (c : Cm) (v : Value) (a : Option Addr) (cap : Nat) (l : List At) (tx : ByteArray) (w : World) (hc : ClH w bc c v) (hR : AtRow w a l) (hz : AtSz 1048576 l) (hn : l.length <= 1048576) (hL : Laid w) :
  Calls Tryz.prog 67 #[.pointer (some ⟨bc, 0, none⟩), .agg #[.slice a l.length cap, .string tx]] w fun e w' => e = .returned (.bool ((timeOf ((valF l fromS).getD ByteArray.empty).data.toList).2 && (timeOf ((valF l toS).getD ByteArray.empty).data.toList).2)) /\ ClH w' bc { c with frm := (timeOf ((valF l fromS).getD ByteArray.empty).data.toList).1, til := (timeOf ((valF l toS).getD ByteArray.empty).data.toList).1 } v /\ KeepB (fun k => k = bc) w w' := by
 have HB0 := hid ((Below.refl w.heap.size w).alloc (Nat.le_refl _) (.cells #[.slice a l.length cap, .string tx] 54))
 have M0 := hid (heap_alloc_new w (.cells #[.slice a l.length cap, .string tx] 54))
 have C1 := hid (fun wx (h : Below w.heap.size w wx) => cTimeIn a cap l fromS wx (hR.below h) hz hn (by decide) (hL.below h))
 have C2 := hid (fun wx (h : Below w.heap.size w wx) => cTimeIn a cap l toS wx (hR.below h) hz hn (by decide) (hL.below h))
 have HC := hid hc
 have HL := hid (lt_of_heap hc)
 obtain ⟨w0, hw0⟩ : ∃ w0, w.alloc (.cells #[.slice a l.length cap, .string tx] 54) = w0 := ⟨_, rfl⟩
 rw [hw0] at HB0 M0
 obtain ⟨sb, hs⟩ : ∃ g, w.heap.size = g := ⟨_, rfl⟩
 have z0 : w0.cell? ⟨sb, 0, none⟩ = some (.slice a l.length cap) := by rw [hs] at M0; rw [Lib.cell_of_heap M0.out]; rfl
 clear hc hR hz hL hn
 generalize (timeOf ((valF l fromS).getD ByteArray.empty).data.toList) = t1 at *
 generalize (timeOf ((valF l toS).getD ByteArray.empty).data.toList) = t2 at *
 obtain ⟨f7, g7⟩ := t1
 obtain ⟨f8, g8⟩ := t2
 go_enter Tryz.func67, Tryz.ntmps67
 go_wp2_with fail
 refine (C1.out _ HB0.out).mono ?_
 rintro e w1 ⟨rfl, hb1⟩
 have HB1 := hid (HB0.out.trans (hb1.mono HB0.out.size))
 have z1 : w1.cell? ⟨sb, 0, none⟩ = some (.slice a l.length cap) := by
  rw [hs] at M0; rw [Lib.cell_of_heap ((hb1.block sb (lt_of_heap M0.out)).trans M0.out)]; rfl
 clear hb1 z0
 go_wp2_with fail
 refine (C2.out _ HB1.out).mono ?_
 rintro e w2 ⟨rfl, hb2⟩
 have HB2 := hid (HB1.out.trans (hb2.mono HB1.out.size))
 clear hb2 z1
 have MC := hid (show ClH w2 bc c v from (HB2.out.block bc HL.out).trans HC.out)
 have MD := hid (show ClH (w2.setCell ⟨bc, 3, none⟩ (.int .i64 f7)) bc { c with frm := f7 } v from heap_setCell_same w2 bc 3 _ _ (.int .i64 f7) MC.out)
 have ME := hid (show ClH ((w2.setCell ⟨bc, 3, none⟩ (.int .i64 f7)).setCell ⟨bc, 4, none⟩ (.int .i64 f8)) bc { c with frm := f7, til := f8 } v from heap_setCell_same _ bc 4 _ _ (.int .i64 f8) MD.out)
 have HK := hid (((KeepB.of_below (fun k => k = bc) HB2.out).trans (KeepB.of_set (p := fun k => k = bc) w2 3 (.int .i64 f7) rfl)).trans (KeepB.of_set (p := fun k => k = bc) _ 4 (.int .i64 f8) rfl))
 obtain ⟨⟨p0, p1, p2, p3, p4, p5, p6, p7⟩, pf0, pf1, pf2, pf3, pf4, pf5, pf6, pf7⟩ := box8 MC.out
 obtain ⟨⟨q0, q1, q2, q3, q4, q5, q6, q7⟩, qf0, qf1, qf2, qf3, qf4, qf5, qf6, qf7⟩ := box8 MD.out
 go_wp2_with fail
 all_goals (go_ret; exact ⟨by cases g7 <;> cases g8 <;> first | rfl | contradiction | simp_all, ME.out, HK.out⟩)

end Go.Proofs.YtlpbbkaelbafdaaGreatDoor

namespace Go.Proofs.YtlpbbkaelbafdaaGreatDoor
open Go.RowKit

noncomputable def kidB (ts : List Tk) (loc : ByteArray) (j : Nat) : Bool := !decide ((nameI ts j).size = 0) && knownN ts j loc claimS

noncomputable def kidsK (ts : List Tk) (k : Nat) (loc : ByteArray) : List Nat := (kidsN ts k).filter (kidB ts loc)

noncomputable def kidsP (ts : List Tk) (l : List Nat) (loc : ByteArray) (q : Nat) : List Nat := (l.take q).filter (kidB ts loc)

theorem kidsP_next {ts : List Tk} {l : List Nat} {loc : ByteArray} {q : Nat} (h : q < l.length) : kidsP ts l loc (q + 1) = kidsP ts l loc q ++ (if kidB ts loc l[q] = true then [l[q]] else []) := by
 unfold kidsP
 rw [take_snocN h, List.filter_append]
 congr 1
 by_cases q : kidB ts loc l[q] = true
 ·rw [if_pos q, List.filter_cons_of_pos q]
  rfl
 ·rw [if_neg q, List.filter_cons_of_neg q]
  rfl

theorem kidsP_len (ts : List Tk) (l : List Nat) (loc : ByteArray) (q : Nat) : (kidsP ts l loc q).length <= q := by
 unfold kidsP
 have h1 := List.length_filter_le (kidB ts loc) (l.take q)
 have h2 := List.length_take_le q l
 omega

theorem kidsK_len (ts : List Tk) (k : Nat) (loc : ByteArray) : (kidsK ts k loc).length <= ts.length := by
 unfold kidsK kidsN kidsTo
 exact Nat.le_trans (List.length_filter_le _ _) (Nat.le_trans (List.length_filter_le _ _) (by rw [List.length_range]; exact Nat.le_refl _))

theorem kidsK_lt {ts : List Tk} {k : Nat} {loc : ByteArray} {j : Nat} (h : j ∈ kidsK ts k loc) : j < ts.length := kidsN_lt (List.mem_filter.1 h).1

noncomputable def txN (ts : List Tk) (j : Nat) : ByteArray := joinT ts (kidsN ts j)

def atN (ts : List Tk) (j : Nat) : List At := match ts[j]? with | some t => t.attrs | none => []

noncomputable def fstT (ts : List Tk) (l : List Nat) : ByteArray := match l with | [] => nE | j :: _ => txN ts j

def valN (ts : List Tk) (j : Nat) (name : ByteArray) : ByteArray := (valF (atN ts j) name).getD ⟨#[]⟩

noncomputable def timN (ts : List Tk) (l : List Nat) (name : ByteArray) : Int × Bool := match l with | [] => (0, false) | j :: _ => timeOf (valN ts j name).data.toList

noncomputable def facN (ts : List Tk) (l : List Nat) : List At := l.map fun j => ⟨valN ts j nameS, txN ts j⟩

def hasNm (ts : List Tk) (j : Nat) : Bool := (valF (atN ts j) nameS).isSome

noncomputable def qdC (ts : List Tk) (k : Nat) : Cm :=
 ⟨(valF (atN ts k) idS).getD ⟨#[]⟩, fstT ts (kidsK ts k (localN 0)), fstT ts (kidsK ts k (localN 1)), (timN ts (kidsK ts k (localN 2)) fromS).1, (timN ts (kidsK ts k (localN 2)) toS).1, fstT ts (kidsK ts k (localN 3)), fstT ts (kidsK ts k (localN 4)), facN ts (kidsK ts k (localN 5))⟩

def DecP (ts : List Tk) (k : Nat) : Prop :=
 (kidsK ts k (localN 0)).length = 1 /\ (kidsK ts k (localN 1)).length = 1 /\ (kidsK ts k (localN 2)).length = 1 /\ (kidsK ts k (localN 3)).length = 1 /\ (kidsK ts k (localN 4)).length <= 1 /\ ((kidsK ts k (localN 4)).length = 1 -> ¬ (fstT ts (kidsK ts k (localN 4))).size = 0) /\
 (timN ts (kidsK ts k (localN 2)) fromS).2 = true /\ (timN ts (kidsK ts k (localN 2)) toS).2 = true /\ (∀ j ∈ kidsK ts k (localN 5), hasNm ts j = true) /\ claimB (qdC ts k) = true

def zeroC : Cm := ⟨⟨#[]⟩, ⟨#[]⟩, ⟨#[]⟩, 0, 0, ⟨#[]⟩, ⟨#[]⟩, []⟩

noncomputable def qdB (ts : List Tk) (k : Nat) : Bool := open Classical in (!decide ((nameI ts k).size = 0) && knownN ts k (⟨#[67, 108, 97, 105, 109]⟩ : ByteArray) claimS && (valF (atN ts k) idS).isSome) && decide (DecP ts k)

noncomputable def qdA (ts : List Tk) (k : Nat) : Cm := if qdB ts k = true then qdC ts k else zeroC

noncomputable def qdI (ts : List Tk) (x : Int) : Bool := namesB ts && idsB ts && decide (0 <= x /\ x < ts.length) && qdB ts x.toNat

noncomputable def qdV (ts : List Tk) (x : Int) : Cm := if qdI ts x = true then qdC ts x.toNat else zeroC

theorem qdB_no {ts : List Tk} {k : Nat} (h : ¬ DecP ts k) : qdB ts k = false := by
 unfold qdB
 simp [h]

theorem qdB_yes {ts : List Tk} {k : Nat} (h1 : (!decide ((nameI ts k).size = 0) && knownN ts k (⟨#[67, 108, 97, 105, 109]⟩ : ByteArray) claimS && (valF (atN ts k) idS).isSome) = true) (h : DecP ts k) : qdB ts k = true := by
 unfold qdB
 rw [h1]
 simp [h]

theorem qdB_head {ts : List Tk} {k : Nat} (h1 : (!decide ((nameI ts k).size = 0) && knownN ts k (⟨#[67, 108, 97, 105, 109]⟩ : ByteArray) claimS && (valF (atN ts k) idS).isSome) = false) : qdB ts k = false := by
 unfold qdB
 rw [h1]
 rfl

end Go.Proofs.YtlpbbkaelbafdaaGreatDoor
