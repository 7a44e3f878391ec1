/- Which of two attrs the program holds ahead: contracts of cmp.Compare, cmp.Or, cmp.Less, compareNames and meantAttr. Which of two attrs the program holds ahead: contracts of compareNames, meantAttr and of the closure that SortFunc is handed. Attrs put in order: contracts of slices.SortFunc over a row of attrs (at most twelve), by the program's closure. -/
import Derived.Test.YtmghipjpgoghlaaGreatM17
import Derived.Test.YtmghipjpgoghlaaGreatM20
import Derived.Test.YtmghipjpgoghlaaGreatM1
import Derived.Test.YtmghipjpgoghlaaGreatM19
import Derived.Test.YtmghipjpgoghlaaGreatM10
import Derived.Test.YtmghipjpgoghlaaGreatM13
import Derived.Laws.Cover1
import Derived.Deep.RegionHeld3
import Derived.LoopN
namespace Go.Proofs.YtmghipjpgoghlaaGreat
open Go.RowKit
set_option linter.unusedVariables false
set_option linter.unusedSimpArgs false

theorem cIsNaN (x : ByteArray) (w : World) : Calls Tryz.prog 170 #[.string x] w fun e w' => e = .returned (.bool false) ∧ w' = w := by
  have hx : (x.toList != x.toList) = false := by simp
  go_enter Tryz.func170, Tryz.ntmps170
  go_wp2
  go_ret
  exact ⟨rfl, rfl⟩

/-- Less, alike, greater. -/
noncomputable def cmpV (x y : ByteArray) : Int := if ltB x y = true then -1 else open Classical in if x = y then 0 else 1

set_option maxHeartbeats 2000000 in
theorem cCompare (x y : ByteArray) (w : World) : Calls Tryz.prog 151 #[.string x, .string y] w fun e w' => e = .returned (.int .i64 (cmpV x y)) ∧ w' = w := by
  have C1 := hid (fun wx => cIsNaN x wx)
  have C2 := hid (fun wx => cIsNaN y wx)
  obtain ⟨V, hV⟩ : ∃ V, cmpV x y = V := ⟨_, rfl⟩
  rw [hV]
  cases h1 : ltB x y with
  | true =>
    have HV := hid (show V = -1 by rw [← hV]; unfold cmpV; rw [if_pos h1])
    clear hV
    unfold ltB at h1
    go_enter Tryz.func151, Tryz.ntmps151
    go_wp2_with fail
    refine (C1.out _).mono ?_
    rintro e w1 ⟨rfl, rfl⟩
    go_wp2_with fail
    refine (C2.out _).mono ?_
    rintro e w2 ⟨rfl, rfl⟩
    go_wp2_with fail
    go_ret
    exact ⟨by rw [HV.out]; rfl, rfl⟩
  | false =>
    by_cases h2 : x = y
    · have HV := hid (show V = 0 by rw [← hV]; unfold cmpV; rw [if_neg (by rw [h1]; exact Bool.false_ne_true), if_pos h2])
      have h3 : (x.toList == y.toList) = true := by rw [str_beq]; exact decide_eq_true h2
      have h4 : (x.toList != y.toList) = false := by unfold bne; rw [h3]; rfl
      clear hV h2
      unfold ltB at h1
      go_enter Tryz.func151, Tryz.ntmps151
      go_wp2_with fail
      refine (C1.out _).mono ?_
      rintro e w1 ⟨rfl, rfl⟩
      go_wp2_with fail
      refine (C2.out _).mono ?_
      rintro e w2 ⟨rfl, rfl⟩
      go_wp2_with fail
      go_ret
      exact ⟨by rw [HV.out]; rfl, rfl⟩
    · have HV := hid (show V = 1 by rw [← hV]; unfold cmpV; rw [if_neg (by rw [h1]; exact Bool.false_ne_true), if_neg h2])
      have h3 : (x.toList == y.toList) = false := by rw [str_beq]; exact decide_eq_false h2
      have h4 : (x.toList != y.toList) = true := by unfold bne; rw [h3]; rfl
      clear hV h2
      unfold ltB at h1
      go_enter Tryz.func151, Tryz.ntmps151
      go_wp2_with fail
      refine (C1.out _).mono ?_
      rintro e w1 ⟨rfl, rfl⟩
      go_wp2_with fail
      refine (C2.out _).mono ?_
      rintro e w2 ⟨rfl, rfl⟩
      go_wp2_with fail
      go_ret
      exact ⟨by rw [HV.out]; rfl, rfl⟩

set_option maxHeartbeats 2000000 in
theorem cLess (x y : ByteArray) (w : World) : Calls Tryz.prog 177 #[.string x, .string y] w fun e w' => e = .returned (.bool (ltB x y)) ∧ w' = w := by
  have C1 := hid (fun wx => cIsNaN x wx)
  unfold ltB
  go_enter Tryz.func177, Tryz.ntmps177
  go_wp2_with fail
  refine (C1.out _).mono ?_
  rintro e w1 ⟨rfl, rfl⟩
  go_wp2_with fail
  go_ret
  exact ⟨rfl, rfl⟩

/-- The first that is not nothing. -/
def orV (a b : Int) : Int := if a = 0 then b else a

set_option maxHeartbeats 2000000 in
theorem cOr (g : Nat) (a b : Int) (w : World) (h1 : w.cell? ⟨g, 0, none⟩ = some (.int .i64 a)) (h2 : w.cell? ⟨g, 1, none⟩ = some (.int .i64 b)) :
    Calls Tryz.prog 150 #[.slice (some ⟨g, 0, none⟩) 2 2] w fun e w' => e = .returned (.int .i64 (orV a b)) ∧ w' = w := by
  obtain ⟨V, hV⟩ : ∃ V, orV a b = V := ⟨_, rfl⟩
  rw [hV]
  by_cases ha : a = 0
  · by_cases hb : b = 0
    · have HV := hid (show V = 0 by rw [← hV]; unfold orV; rw [if_pos ha, hb])
      subst ha hb
      clear hV
      go_enter Tryz.func150, Tryz.ntmps150
      go_wp2
      refine wp_loop_rounds 3 ?_
      rw [rounds_succ]
      go_wp2_with fail
      rw [rounds_succ]
      go_wp2_with fail
      rw [rounds_succ]
      go_wp2_with fail
      go_ret
      exact ⟨by rw [HV.out]; rfl, rfl⟩
    · have HV := hid (show V = b by rw [← hV]; unfold orV; rw [if_pos ha])
      subst ha
      have hb' : (b != 0) = true := by simpa using hb
      clear hV
      go_enter Tryz.func150, Tryz.ntmps150
      go_wp2
      refine wp_loop_rounds 3 ?_
      rw [rounds_succ]
      go_wp2_with fail
      rw [rounds_succ]
      go_wp2_with fail
      go_ret
      exact ⟨by rw [HV.out]; rfl, rfl⟩
  · have HV := hid (show V = a by rw [← hV]; unfold orV; rw [if_neg ha])
    have ha' : (a != 0) = true := by simpa using ha
    clear hV
    go_enter Tryz.func150, Tryz.ntmps150
    go_wp2
    refine wp_loop_rounds 3 ?_
    rw [rounds_succ]
    go_wp2_with fail
    go_ret
    exact ⟨by rw [HV.out]; rfl, rfl⟩

end Go.Proofs.YtmghipjpgoghlaaGreat

namespace Go.Proofs.YtmghipjpgoghlaaGreat
open Go.RowKit
set_option linter.unusedVariables false
set_option linter.unusedSimpArgs false

noncomputable def cmpN (M L N K : ByteArray) : Int := orV (cmpV M N) (cmpV L K)

theorem cmpN_ahead {ts : List Tk} {k : Nat} {x y : At} : decide (cmpN (atMean ts k x) (locS x.name) (atMean ts k y) (locS y.name) < 0) = aheadF ts k x y := by
  unfold cmpN aheadF cmpV orV
  cases h1 : ltB (atMean ts k x) (atMean ts k y) with
  | true => simp
  | false =>
    by_cases h2 : atMean ts k x = atMean ts k y
    · cases h3 : ltB (locS x.name) (locS y.name) with
      | true => simp [h2]
      | false =>
        by_cases h4 : locS x.name = locS y.name
        · simp [h2, h4]
        · simp [h2, h4]
    · simp [h2]

set_option maxRecDepth 4000 in
set_option maxHeartbeats 4000000 in
theorem cCompareNames (M L N K : ByteArray) (w : World) :
    Calls Tryz.prog 122 #[.agg #[.string M, .string L], .agg #[.string N, .string K]] w fun e w' => e = .returned (.int .i64 (cmpN M L N K)) ∧ Below w.heap.size w w' := by
  have HB := hid (((Below.refl w.heap.size w).alloc (Nat.le_refl _) (.cells #[.string M, .string L] 161)).alloc (by simp) (.cells #[.string N, .string K] 161))
  have C1 := hid (fun wx => cCompare M N wx)
  have C2 := hid (fun wx => cCompare L K wx)
  have CO := hid (fun g a b wx => cOr g a b wx)
  unfold cmpN
  generalize cmpV M N = P at *
  generalize cmpV L K = Q at *
  have M0 := blk_alloc (heap_alloc_new w (.cells #[.string M, .string L] 161)) (.cells #[.string N, .string K] 161)
  have M1 := heap_two w (.cells #[.string M, .string L] 161) (.cells #[.string N, .string K] 161)
  have hs : ((w.alloc (.cells #[.string M, .string L] 161)).alloc (.cells #[.string N, .string K] 161)).heap.size = w.heap.size + 2 := by simp
  obtain ⟨g, hg⟩ : ∃ g, w.heap.size = g := ⟨_, rfl⟩
  have Hg := hid hg
  go_enter Tryz.func122, Tryz.ntmps122
  go_wp2_with fail
  obtain ⟨W, hW⟩ : ∃ W, (w.alloc (.cells #[.string M, .string L] 161)).alloc (.cells #[.string N, .string K] 161) = W := ⟨_, rfl⟩
  rw [hW] at HB
  simp only [hW, hg] at M0 M1 hs ⊢
  have HSX := hid (show ∀ W', Below W.heap.size W W' → W'.cell? ⟨g, 0, none⟩ = some (.string M) ∧ W'.cell? ⟨g, 1, none⟩ = some (.string L) ∧ W'.cell? ⟨g + 1, 0, none⟩ = some (.string N) ∧ W'.cell? ⟨g + 1, 1, none⟩ = some (.string K) from fun W' hb => ⟨(box2e (blk_below M0 hb)).1.1, (box2e (blk_below M0 hb)).1.2, (box2e (blk_below M1 hb)).1.1, (box2e (blk_below M1 hb)).1.2⟩)
  have HBc := hid ((Below.refl W.heap.size W).drew)
  have K0 := hid ((box2e (heap_alloc_new W (.cells #[.int .i64 P, .int .i64 Q] 3))).1)
  have CX := hid (CO.out W.heap.size P Q (W.alloc (.cells #[.int .i64 P, .int .i64 Q] 3)).drew K0.out.1 K0.out.2)
  have HB9 := hid ((HB.out.alloc HB.out.size (.cells #[.int .i64 P, .int .i64 Q] 3)).drew)
  clear hW M0 M1 hs hg
  go_region_held3 (fun w' => w'.cell? ⟨g, 0, none⟩ = some (.string M) ∧ w'.cell? ⟨g, 1, none⟩ = some (.string L) ∧ w'.cell? ⟨g + 1, 0, none⟩ = some (.string N) ∧ w'.cell? ⟨g + 1, 1, none⟩ = some (.string K)) (first | exact HSX.out _ HBc.out | exact HSX.out _ (HBc.out.alloc HBc.out.size _))
    (first
      | (go_at_call 151; (with_reducible refine (C1.out _).mono ?_); rintro e w1 ⟨rfl, hw1⟩; subst hw1)
      | (go_at_call 151; (with_reducible refine (C2.out _).mono ?_); rintro e w1 ⟨rfl, hw1⟩; subst hw1)
      | (go_at_call 150; refine CX.out.mono ?_; rintro e w1 ⟨rfl, hw1⟩; subst hw1))
  go_wp2_with fail
  go_ret
  exact ⟨rfl, HB9.out⟩

/-- What an attr's name means by these. -/
noncomputable def mnL (ls : List At) (x : At) : ByteArray := if (preS x.name).size = 0 then ⟨#[]⟩ else (lookL ls (preS x.name)).getD ⟨#[]⟩

theorem mnL_mean {ts : List Tk} {k : Nat} (h : (outAts ts k).all rightB = true) (x : At) : mnL (outAts ts k) x = atMean ts k x := by
  unfold mnL atMean
  rw [meanF_look h]

set_option maxRecDepth 4000 in
set_option maxHeartbeats 2000000 in
theorem cMeantAttr (x : At) (F : FuncId) (C : Array Value) (ls : List At) (w : World) (hA : Asks F C w ls) (hx : x.name.size ≤ 1048576) :
    Calls Tryz.prog 123 #[.agg #[.string x.name, .string x.value], .func (.func F) #[] C] w fun e w' => e = .returned (.agg #[.string (mnL ls x), .string (locS x.name)]) ∧ Below w.heap.size w w' := by
  have CP := hid (fun wx => cPartsI x.name wx hx)
  have HB0 := hid (((Below.refl w.heap.size w).alloc (Nat.le_refl _) (.cells #[.string x.name, .string x.value] 42)).alloc (by simp) (.cells #[.string ⟨#[]⟩, .string ⟨#[]⟩] 161))
  have M1 := hid (heap_two w (.cells #[.string x.name, .string x.value] 42) (.cells #[.string ⟨#[]⟩, .string ⟨#[]⟩] 161))
  have he := hA.1 (preS x.name)
  have CM := hid (fun wx (hb : Below w.heap.size w wx) => hA.2 (preS x.name) wx hb (preS_sz hx))
  have E := empty_is (preS x.name)
  have HM := hid (show mnL ls x = if (preS x.name).size = 0 then ⟨#[]⟩ else (lookL ls (preS x.name)).getD ⟨#[]⟩ from rfl)
  generalize mnL ls x = V at *
  generalize (lookL ls (preS x.name)).getD ⟨#[]⟩ = M at *
  generalize (lookL ls (preS x.name)).isSome = I at *
  generalize preS x.name = P at *
  generalize locS x.name = L at *
  clear hA hx
  by_cases hq : P.size = 0
  · have HV := hid (show V = ⟨#[]⟩ by rw [HM.out, if_pos hq])
    rw [decide_eq_true hq] at E
    clear HM hq CM he
    go_enter Tryz.func123, Tryz.ntmps123
    go_wp2_with fail
    refine (CP.out _).mono ?_
    rintro e w1 ⟨rfl, hb1⟩
    have HB1 := hid (bb HB0.out hb1)
    obtain ⟨⟨y0, y1⟩, f0, f1⟩ := box2e (blk_below M1.out hb1)
    clear hb1
    go_wp2_with fail
    refine bodyPost_ret (v := .agg #[.string ⟨#[]⟩, .string L]) (by simp [results, Tryz.results123, go_sem, y0, y1]) rfl ⟨by rw [HV.out], ?_⟩
    iterate 2 refine Below.setCell ?_ (Nat.le_succ _) _
    exact HB1.out
  · have HV := hid (show V = M by rw [HM.out, if_neg hq])
    rw [decide_eq_false hq] at E
    clear HM hq
    go_enter Tryz.func123, Tryz.ntmps123
    go_wp2_with fail
    refine (CP.out _).mono ?_
    rintro e w1 ⟨rfl, hb1⟩
    have HB1 := hid (bb HB0.out hb1)
    have M2 := hid (blk_below M1.out hb1)
    clear hb1
    go_wp2_with fail
    refine (CM.out _ HB1.out).mono ?_
    rintro e w2 ⟨rfl, hb2⟩
    have HB2 := hid (bb HB1.out hb2)
    obtain ⟨⟨y0, y1⟩, f0, f1⟩ := box2e (blk_below M2.out hb2)
    clear hb2
    go_wp2_with fail
    refine bodyPost_ret (v := .agg #[.string M, .string L]) (by simp [results, Tryz.results123, go_sem, y0, y1]) rfl ⟨by rw [HV.out], ?_⟩
    iterate 2 refine Below.setCell ?_ (Nat.le_succ _) _
    exact HB2.out

/-- What the closure answers. -/
noncomputable def cmpA (ls : List At) (x y : At) : Int := cmpN (mnL ls x) (locS x.name) (mnL ls y) (locS y.name)

set_option maxRecDepth 4000 in
set_option maxHeartbeats 4000000 in
theorem cCmpA (x y : At) (F : FuncId) (C : Array Value) (ls : List At) (b : Nat) (w : World) (hA : Asks F C w ls) (hb : b < w.heap.size) (hc : w.cell? ⟨b, 0, none⟩ = some (.func (.func F) #[] C)) (hx : x.name.size ≤ 1048576) (hy : y.name.size ≤ 1048576) :
    Calls Tryz.prog 121 #[.agg #[.string x.name, .string x.value], .agg #[.string y.name, .string y.value], .pointer (some ⟨b, 0, none⟩)] w fun e w' => e = .returned (.int .i64 (cmpA ls x y)) ∧ Below w.heap.size w w' := by
  have HB := hid (((Below.refl w.heap.size w).alloc (Nat.le_refl _) (.cells #[.string x.name, .string x.value] 42)).alloc (by simp) (.cells #[.string y.name, .string y.value] 42))
  have M0 := hid (blk_alloc (heap_alloc_new w (.cells #[.string x.name, .string x.value] 42)) (.cells #[.string y.name, .string y.value] 42))
  have M1 := hid (heap_two w (.cells #[.string x.name, .string x.value] 42) (.cells #[.string y.name, .string y.value] 42))
  have HG := hid (HB.out.cell (p := ⟨b, 0, none⟩) hb |>.trans hc)
  obtain ⟨W, hW⟩ : ∃ W, (w.alloc (.cells #[.string x.name, .string x.value] 42)).alloc (.cells #[.string y.name, .string y.value] 42) = W := ⟨_, rfl⟩
  obtain ⟨g, hg⟩ : ∃ g, w.heap.size = g := ⟨_, rfl⟩
  have hWs : W.heap.size = g + 2 := by rw [← hW, ← hg]; simp
  rw [hW] at HB M0 M1 HG
  rw [hg] at M0 M1
  have CA := hid (fun p : BW W => cMeantAttr x F C ls p.w (hA.below (bb HB.out p.h)) hx)
  have CB := hid (fun p : BW W => cMeantAttr y F C ls p.w (hA.below (bb HB.out p.h)) hy)
  have CC := hid (fun p : BW W => cCompareNames (mnL ls x) (locS x.name) (mnL ls y) (locS y.name) p.w)
  have k0 : ∀ p : BW W, p.w.cell? ⟨g, 0, none⟩ = some (.string x.name) := fun p => (box2e (blk_below M0.out p.h)).1.1
  have k1 : ∀ p : BW W, p.w.cell? ⟨g, 1, none⟩ = some (.string x.value) := fun p => (box2e (blk_below M0.out p.h)).1.2
  have k2 : ∀ p : BW W, p.w.cell? ⟨g + 1, 0, none⟩ = some (.string y.name) := fun p => (box2e (blk_below M1.out p.h)).1.1
  have k3 : ∀ p : BW W, p.w.cell? ⟨g + 1, 1, none⟩ = some (.string y.value) := fun p => (box2e (blk_below M1.out p.h)).1.2
  have k4 : ∀ p : BW W, p.w.cell? ⟨b, 0, none⟩ = some (.func (.func F) #[] C) := fun p => (p.h.cell (p := ⟨b, 0, none⟩) (by show b < W.heap.size; omega)).trans HG.out
  have HNB := hid (bw_any W)
  have HW := hid hW
  have Hg := hid hg
  unfold cmpA
  generalize cmpN (mnL ls x) (locS x.name) (mnL ls y) (locS y.name) = V at *
  generalize mnL ls x = m1 at *
  generalize mnL ls y = m2 at *
  generalize locS x.name = l1 at *
  generalize locS y.name = l2 at *
  clear hA hc hx hy HG M0 M1 hWs hb hW hg
  go_enter Tryz.func121, Tryz.ntmps121
  go_wp2_with fail
  simp only [HW.out, Hg.out]
  haveI := HNB.out
  refine wp_region_below (by kernel_rfl) (by kernel_rfl) (Below.refl W.heap.size W) ?_
  repeat (go_big_quiet_step ((first | (go_at_call 123; first | (with_reducible exact calls_bw _ (CA.out _)) | (with_reducible exact calls_bw _ (CB.out _))) | (go_at_call 122; exact calls_bw _ (CC.out _)))))
  refine wpQuiet_nil ?_
  intro _ hw'
  obtain ⟨⟨wq, hwq⟩, hw''⟩ := hw'
  subst hw''
  have HWQ := hid (bb HB.out hwq)
  clear hwq k0 k1 k2 k3 k4
  go_wp2_with fail
  go_ret
  exact ⟨rfl, HWQ.out⟩

end Go.Proofs.YtmghipjpgoghlaaGreat

namespace Go.Proofs.YtmghipjpgoghlaaGreat
open Go.RowKit
set_option linter.unusedVariables false
set_option linter.unusedSimpArgs false

/-- A block of attrs, and room. -/
def Holds2 (w : World) (G c : Nat) (d : List At) : Prop := ∃ cu : Array Value, w.heap[G]? = some (.cells cu 42 (0, 0)) ∧ cu.size = c * 2 ∧ d.length ≤ c ∧ cu.toList.take (d.length * 2) = atC d

theorem Holds2.below {w w' : World} {B G c : Nat} {d : List At} (h : Holds2 w G c d) (hb : Below B w w') (hG : G < B) : Holds2 w' G c d := by
  obtain ⟨cu, h1, h2⟩ := h
  exact ⟨cu, (hb.block G hG).trans h1, h2⟩

theorem Holds2.lt {w : World} {G c : Nat} {d : List At} (h : Holds2 w G c d) : G < w.heap.size := by
  obtain ⟨cu, h1, _⟩ := h
  exact lt_of_heap h1

theorem Holds2.cells {w : World} {G c : Nat} {d : List At} (h : Holds2 w G c d) {j : Nat} (hj : j < d.length) : (w.cell? ⟨G, j * 2, none⟩ = some (.string d[j].name) ∧ w.cell? ⟨G, j * 2 + 1, none⟩ = some (.string d[j].value)) ∧ w.frozen? ⟨G, j * 2, none⟩ = false ∧ w.frozen? ⟨G, j * 2 + 1, none⟩ = false := by
  obtain ⟨cu, h1, h2, h3, h4⟩ := h
  obtain ⟨g1, g2⟩ := atC_get d j hj
  rw [← h4] at g1 g2
  rw [List.getElem?_take_of_lt (by omega)] at g1 g2
  refine ⟨⟨?_, ?_⟩, Lib.frozen_of_heap h1 _, Lib.frozen_of_heap h1 _⟩
  · rw [Lib.cell_of_heap h1, ← Array.getElem?_toList]; exact g1
  · rw [Lib.cell_of_heap h1, ← Array.getElem?_toList]; exact g2

theorem atC_set : ∀ (d : List At) (j : Nat) (x : At), j < d.length → atC (d.set j x) = ((atC d).set (j * 2) (.string x.name)).set (j * 2 + 1) (.string x.value)
  | [], j, x, h => absurd h (Nat.not_lt_zero _)
  | y :: d, 0, x, _ => rfl
  | y :: d, j + 1, x, h => by
    have ih := atC_set d j x (by simpa using h)
    show (Value.string y.name) :: (.string y.value) :: atC (d.set j x) = _
    rw [ih, show (j + 1) * 2 = j * 2 + 1 + 1 by omega]
    rfl

theorem Holds2.set {w : World} {G c : Nat} {d : List At} (h : Holds2 w G c d) {j : Nat} (hj : j < d.length) (x : At) : Holds2 ((w.setCell ⟨G, j * 2, none⟩ (.string x.name)).setCell ⟨G, j * 2 + 1, none⟩ (.string x.value)) G c (d.set j x) := by
  obtain ⟨cu, h1, h2, h3, h4⟩ := h
  refine ⟨_, heap_setCell_same _ _ _ _ _ _ (heap_setCell_same w G _ _ _ _ h1), by simpa using h2, by simpa using h3, ?_⟩
  rw [List.length_set, atC_set d j x hj, ← h4]
  simp only [Array.toList_setIfInBounds, List.take_set]

/-- One step of the walk from behind: two neighbours change places. -/
theorem swap_is {P : List At} {y x : At} {R : List At} : ((P ++ y :: x :: R).set (P.length + 1) y).set P.length x = P ++ x :: y :: R := by
  simp [List.set_append]

/-- What the walk from behind holds: the one in hand, what stands ahead of it, what it went past. -/
def MidA (lt : At → At → Bool) (S R : List At) (x : At) (wr : World) (G c j : Nat) : Prop := ∃ P Q, P.length = j ∧ P ++ Q = S ∧ (∀ q ∈ Q, lt x q = true) ∧ Holds2 wr G c (P ++ x :: (Q ++ R))

theorem MidA.start {lt : At → At → Bool} {S R : List At} {x : At} {wr : World} {G c j : Nat} (hS : S.length = j) (h : Holds2 wr G c (S ++ x :: R)) : MidA lt S R x wr G c j := ⟨S, [], hS, by simp, fun q hq => absurd hq List.not_mem_nil, by simpa using h⟩

theorem MidA.stop {lt : At → At → Bool} (ho : OrdB lt) {S R : List At} {x : At} {wr : World} {G c j : Nat} (h : MidA lt S R x wr G c j) (hS : RisesB lt S) (hs : j = 0 ∨ ∀ y, S[j - 1]? = some y → lt x y = false) : Holds2 wr G c (insG lt S x ++ R) := by
  obtain ⟨P, Q, h1, rfl, h3, h4⟩ := h
  rw [ins_stop ho hS h3 (fun y hy => ?_)]
  · simpa using h4
  · rcases hs with rfl | hs
    · rw [List.length_eq_zero_iff.1 h1] at hy; cases hy
    · refine hs y ?_
      rw [← h1]
      have hne : P ≠ [] := fun e => by rw [e] at hy; cases hy
      have hl : P.length - 1 < P.length := by have := List.length_pos_iff.2 hne; omega
      rw [List.getElem?_append_left hl, ← List.getLast?_eq_getElem?]
      exact hy

theorem MidA.below {lt : At → At → Bool} {S R : List At} {x : At} {w w' : World} {B G c j : Nat} (h : MidA lt S R x w G c j) (hb : Below B w w') (hG : G < B) : MidA lt S R x w' G c j := by
  obtain ⟨P, Q, h1, h2, h3, h4⟩ := h
  exact ⟨P, Q, h1, h2, h3, h4.below hb hG⟩

theorem MidA.drew {lt : At → At → Bool} {S R : List At} {x : At} {w : World} {G c j : Nat} (h : MidA lt S R x w G c j) : MidA lt S R x w.drew G c j := by
  obtain ⟨P, Q, h1, h2, h3, h4⟩ := h
  exact ⟨P, Q, h1, h2, h3, h4⟩

theorem MidA.look {lt : At → At → Bool} {S R : List At} {x : At} {wr : World} {G c jp : Nat} (h : MidA lt S R x wr G c (jp + 1)) : ∃ y, S[jp]? = some y ∧ y ∈ S ∧ ((wr.cell? ⟨G, (jp + 1) * 2, none⟩ = some (.string x.name) ∧ wr.cell? ⟨G, (jp + 1) * 2 + 1, none⟩ = some (.string x.value)) ∧ wr.frozen? ⟨G, (jp + 1) * 2, none⟩ = false ∧ wr.frozen? ⟨G, (jp + 1) * 2 + 1, none⟩ = false)
    ∧ ((wr.cell? ⟨G, jp * 2, none⟩ = some (.string y.name) ∧ wr.cell? ⟨G, jp * 2 + 1, none⟩ = some (.string y.value)) ∧ wr.frozen? ⟨G, jp * 2, none⟩ = false ∧ wr.frozen? ⟨G, jp * 2 + 1, none⟩ = false) ∧ G < wr.heap.size
    ∧ (lt x y = true → ∀ w', w' = (((wr.setCell ⟨G, (jp + 1) * 2, none⟩ (.string y.name)).setCell ⟨G, (jp + 1) * 2 + 1, none⟩ (.string y.value)).setCell ⟨G, jp * 2, none⟩ (.string x.name)).setCell ⟨G, jp * 2 + 1, none⟩ (.string x.value) → MidA lt S R x w' G c jp) := by
  obtain ⟨P, Q, h1, rfl, h3, h4⟩ := h
  have hl : jp < P.length := by omega
  have hn : jp + 1 < (P ++ x :: (Q ++ R)).length := by simp only [List.length_append, List.length_cons]; omega
  have k1 := h4.cells hn
  have k2 := h4.cells (j := jp) (by omega)
  have e1 : (P ++ x :: (Q ++ R))[jp + 1] = x := by
    rw [List.getElem_append_right (by omega)]
    simp [h1]
  have e2 : (P ++ x :: (Q ++ R))[jp] = P[jp] := List.getElem_append_left hl
  rw [e1] at k1
  rw [e2] at k2
  refine ⟨P[jp], by rw [List.getElem?_append_left hl, List.getElem?_eq_getElem hl], List.mem_append_left _ (List.getElem_mem hl), k1, k2, h4.lt, fun hlt w' hw => ?_⟩
  have hP : P = P.take jp ++ [P[jp]] := by
    have := List.take_append_drop jp P
    rw [List.drop_eq_getElem_cons hl, List.drop_of_length_le (by omega)] at this
    exact this.symm
  have hlen : (P.take jp).length = jp := by rw [List.length_take]; omega
  refine ⟨P.take jp, P[jp] :: Q, hlen, ?_, fun q hq => ?_, ?_⟩
  · have : P.take jp ++ P[jp] :: Q = (P.take jp ++ [P[jp]]) ++ Q := by rw [List.append_assoc]; rfl
    rw [this, ← hP]
  · rcases List.mem_cons.1 hq with rfl | hq
    · exact hlt
    · exact h3 q hq
  · have h5 := (h4.set hn P[jp]).set (j := jp) (by rw [List.length_set]; omega) x
    rw [← hw] at h5
    have h6 : ((P ++ x :: (Q ++ R)).set (jp + 1) P[jp]).set jp x = P.take jp ++ x :: (P[jp] :: Q ++ R) := by
      have := swap_is (P := P.take jp) (y := P[jp]) (x := x) (R := Q ++ R)
      rw [hlen] at this
      have e : P ++ x :: (Q ++ R) = P.take jp ++ P[jp] :: x :: (Q ++ R) := by
        have : P.take jp ++ P[jp] :: x :: (Q ++ R) = (P.take jp ++ [P[jp]]) ++ x :: (Q ++ R) := by rw [List.append_assoc]; rfl
        rw [this, ← hP]
      rw [e, this]
      rfl
    rw [h6] at h5
    exact h5

set_option maxRecDepth 8000 in
set_option maxHeartbeats 4000000 in
theorem cInsA (G c cap : Nat) (l : List At) (F : FuncId) (C : Array Value) (ls : List At) (b : Nat) (w0 w : World) (ho : OrdB (fun x y => decide (cmpA ls x y < 0))) (hA : Asks F C w0 ls) (hb : b < w0.heap.size) (hc : w0.cell? ⟨b, 0, none⟩ = some (.func (.func F) #[] C))
    (hB : Below w0.heap.size w0 w) (hG : w0.heap.size ≤ G) (hH : Holds2 w G c l) (hz : AtSz 1048576 l) (hn : l.length ≤ 12) :
    Calls Tryz.prog 160 #[.slice (some ⟨G, 0, none⟩) l.length cap, .int .i64 0, .int .i64 l.length, .func (.func 121) #[] #[.pointer (some ⟨b, 0, none⟩)]] w fun e w' =>
      e = .returned (.tuple #[]) ∧ Holds2 w' G c (sortG (fun x y => decide (cmpA ls x y < 0)) l) ∧ Below w0.heap.size w0 w' := by
  obtain ⟨lt, hlt⟩ : ∃ lt : At → At → Bool, lt = fun x y => decide (cmpA ls x y < 0) := ⟨_, rfl⟩
  have HLT := hid (show ∀ x y, lt x y = decide (cmpA ls x y < 0) from fun x y => by rw [hlt])
  rw [← hlt] at ho ⊢
  clear hlt
  have HO := hid ho
  have CC := hid (fun (x y : At) (wx : World) (hbx : Below w0.heap.size w0 wx) (hx : x.name.size ≤ 1048576) (hy : y.name.size ≤ 1048576) => cCmpA x y F C ls b wx (hA.below hbx) (Nat.lt_of_lt_of_le hb hbx.size) ((hbx.cell (p := ⟨b, 0, none⟩) hb).trans hc) hx hy)
  have HZ := hid hz
  have HH := hid hH
  have HBB := hid hB
  have he : ∀ args (wx : World), (callFunc 121 args).run Tryz.prog wx = .ok (.enter 121 args) wx := fun args wx => enters Tryz.func121 (by kernel_rfl) rfl _ wx
  have HG := hid hG
  clear ho hA hb hc hB hG hH hz
  obtain ⟨n, hnn⟩ : ∃ n, l.length = n := ⟨_, rfl⟩
  have HN := hid hnn
  rw [hnn] at hn ⊢
  clear hnn
  go_enter Tryz.func160, Tryz.ntmps160
  go_wp2_with fail
  go_loopw [8] (fun vi wr => ∃ i : Nat, vi = .int .i64 (i : Int) ∧ 1 ≤ i ∧ i ≤ 13 ∧ (i = 1 ∨ i ≤ n) ∧ Hid (Holds2 wr G c (sortG lt (l.take i) ++ l.drop i)) ∧ Hid (Below w0.heap.size w0 wr)) (fun k _ => 14 - (intOf k).toNat)
  case atStart => exact ⟨1, rfl, by omega, by omega, .inl rfl, by
    show Holds2 _ _ _ _
    have e : sortG lt (l.take 1) ++ l.drop 1 = l := by
      cases l with
      | nil => rfl
      | cons x l => rfl
    rw [e]; exact HH.out, HBB.out⟩
  case round =>
    obtain ⟨i, rfl, hi1, hi2, hi3, HD, HB⟩ := hrel
    by_cases hlt : i < n
    · have his : i < l.length := by rw [HN.out]; exact hlt
      have hin : (i : Int) < (n : Int) := by omega
      obtain ⟨x, hx⟩ : ∃ x, l[i] = x := ⟨_, rfl⟩
      obtain ⟨S, hS⟩ : ∃ S, sortG lt (l.take i) = S := ⟨_, rfl⟩
      obtain ⟨s1, s2, s3⟩ := sort_all HO.out (l.take i)
      have HNX := hid (show sortG lt (l.take (i + 1)) = insG lt S x by rw [sort_next lt his, hx, hS])
      rw [hS] at s1 s2 s3 HD
      have HSR := hid s1
      have HSZ := hid (show ∀ y ∈ S, y.name.size ≤ 1048576 from fun y hy => (HZ.out y (List.mem_of_mem_take ((s3 y).1 hy))).1)
      have HXZ := hid (show x.name.size ≤ 1048576 by rw [← hx]; exact (HZ.out _ (List.getElem_mem his)).1)
      have HMD := hid (MidA.start (lt := lt) (S := S) (R := l.drop (i + 1)) (x := x) (wr := wr) (G := G) (c := c) (j := i) (by rw [s2, List.length_take]; omega) (by have := HD.out; rw [List.drop_eq_getElem_cons his, hx] at this; exact this))
      clear hx hS s1 s2 s3 HD
      obtain ⟨R, hR⟩ : ∃ R, l.drop (i + 1) = R := ⟨_, rfl⟩
      rw [hR] at HMD
      have HRR := hid hR
      clear hR
      go_wp2_with fail
      go_loopw [9] (fun vj wr2 => ∃ j : Nat, vj = .int .i64 (j : Int) ∧ j ≤ i ∧ Hid (MidA lt S R x wr2 G c j) ∧ Hid (Below w0.heap.size w0 wr2)) (fun k _ => (intOf k).toNat)
      case atStart => exact ⟨i, rfl, Nat.le_refl _, HMD.out, HB.out⟩
      case round =>
        obtain ⟨j, rfl, hj, HM, HB2⟩ := hrel
        have HNB := hid (bw_any wr)
        rcases Nat.eq_zero_or_pos j with hj0 | hj0
        · have HE := hid (HM.out.stop HO.out HSR.out (.inl hj0))
          subst hj0
          have hd : decide (((0 : Nat) : Int) > 0) = false := rfl
          go_wp2_with fail
          haveI := HNB.out
          refine wp_region_below (by kernel_rfl) (by kernel_rfl) (Below.refl wr.heap.size wr) ?_
          repeat (go_big_quiet_step (fail))
          refine wpQuiet_nil ?_
          intro _ hw'
          obtain ⟨⟨wq, hwq⟩, hw''⟩ := hw'
          subst hw''
          have HBQ := hid (bb HB2.out hwq)
          have HEQ := hid (HE.out.below hwq HE.out.lt)
          clear hwq HE this
          go_wp2_with fail
          go_roundw
          case rel => exact ⟨i + 1, by go_num, by omega, by omega, by omega, by rw [HNX.out, HRR.out]; exact HEQ.out, HBQ.out⟩
          case measure => simp [intOf]; omega
        · obtain ⟨jp, rfl⟩ : ∃ jp, j = jp + 1 := ⟨j - 1, by omega⟩
          obtain ⟨y, hy, hyS, ⟨⟨x1, x2⟩, x3, x4⟩, ⟨⟨y1, y2⟩, y3, y4⟩, hGl, hsw⟩ := HM.out.look
          have CA := hid (fun p : BW wr => CC.out x y p.w (bb HB2.out p.h) HXZ.out (HSZ.out y hyS))
          have HLX := hid (HLT.out x y)
          have HSW := hid hsw
          have HSTOP := hid (show lt x y = false → Holds2 wr G c (insG lt S x ++ R) from fun h => HM.out.stop HO.out HSR.out (.inr (fun z hz => by
            rw [Nat.add_sub_cancel, hy] at hz
            cases hz
            exact h)))
          have HGL := hid hGl
          obtain ⟨k1, k2⟩ := pair_bw hGl x1 x2
          obtain ⟨k3, k4⟩ := pair_bw hGl y1 y2
          have HX := hid (And.intro (And.intro x1 x2) (And.intro x3 x4))
          have HY := hid (And.intro (And.intro y1 y2) (And.intro y3 y4))
          have HMM := hid HM.out
          have HYS := hid hy
          clear hy hyS hGl hsw HM HSZ HXZ x1 x2 x3 x4 y1 y2 y3 y4
          generalize x.name = xn at *
          generalize x.value = xv at *
          generalize y.name = yn at *
          generalize y.value = yv at *
          generalize cmpA ls x y = V at *
          have hd : decide (((jp + 1 : Nat) : Int) > 0) = true := decide_eq_true (by omega)
          have e1 : ((jp + 1 : Nat) : Int) - 1 = (jp : Int) := by omega
          have j1 : (jp : Int) + 1 < (n : Int) := by omega
          have j2 : (jp : Int) < (n : Int) := by omega
          have hdr : decide (V < 0) = lt x y := HLX.out.symm
          cases hq : lt x y with
          | false =>
            have HE := hid (HSTOP.out hq)
            rw [hq] at hdr
            go_wp2_with fail
            haveI := HNB.out
            refine wp_region_below (by kernel_rfl) (by kernel_rfl) (Below.refl wr.heap.size wr) ?_
            repeat (go_big_quiet_step ((go_at_call 121; exact calls_bw _ (CA.out _))))
            refine wpQuiet_nil ?_
            intro _ hw'
            obtain ⟨⟨wq, hwq⟩, hw''⟩ := hw'
            subst hw''
            have HBQ := hid (bb HB2.out hwq)
            have HEQ := hid (HE.out.below hwq HE.out.lt)
            clear hwq HE this k1 k2 k3 k4
            go_wp2_with fail
            go_roundw
            case rel => exact ⟨i + 1, by go_num, by omega, by omega, by omega, by rw [HNX.out, HRR.out]; exact HEQ.out, HBQ.out⟩
            case measure => simp [intOf]; omega
          | true =>
            rw [hq] at hdr
            go_wp2_with fail
            haveI := HNB.out
            refine wp_region_below (by kernel_rfl) (by kernel_rfl) (Below.refl wr.heap.size wr) ?_
            repeat (go_big_quiet_step ((go_at_call 121; exact calls_bw _ (CA.out _))))
            refine wpQuiet_nil ?_
            intro _ hw'
            obtain ⟨⟨wq, hwq⟩, hw''⟩ := hw'
            subst hw''
            have HBQ := hid (bb HB2.out hwq)
            have HMQ := hid (HMM.out.below hwq HGL.out)
            obtain ⟨z, hz, hzS, ⟨⟨x1, x2⟩, x3, x4⟩, ⟨⟨y1, y2⟩, y3, y4⟩, hGl, hsw⟩ := HMQ.out.look
            clear hwq this k1 k2 k3 k4
            have HZQ := hid (hsw (by rw [HYS.out] at hz; cases hz; exact hq))
            clear hz hzS hsw hGl
            go_wp2_with fail
            go_region
            all_goals go_wp2_with fail
            go_roundw
            case rel =>
              refine ⟨jp, by go_num, by omega, (HZQ.out _ rfl).drew, ?_⟩
              show Below _ _ _
              refine Below.drew ?_
              iterate 4 refine Below.setCell ?_ HG.out _
              exact HBQ.out
            case measure => simp [intOf]
    · have hin : ¬ (i : Int) < (n : Int) := by omega
      have HE := hid (show Holds2 wr G c (sortG lt l) by
        have h := HD.out
        rw [List.take_of_length_le (by rw [HN.out]; omega), List.drop_of_length_le (by rw [HN.out]; omega), List.append_nil] at h
        exact h)
      go_wp2_with fail
      go_end0
      exact ⟨rfl, HE.out, HB.out⟩

set_option maxRecDepth 8000 in
set_option maxHeartbeats 4000000 in
theorem cPdqA (G c cap : Nat) (l : List At) (lim : Int) (F : FuncId) (C : Array Value) (ls : List At) (b : Nat) (w0 w : World) (ho : OrdB (fun x y => decide (cmpA ls x y < 0))) (hA : Asks F C w0 ls) (hb : b < w0.heap.size) (hc : w0.cell? ⟨b, 0, none⟩ = some (.func (.func F) #[] C))
    (hB : Below w0.heap.size w0 w) (hG : w0.heap.size ≤ G) (hH : Holds2 w G c l) (hz : AtSz 1048576 l) (hn : l.length ≤ 12) :
    Calls Tryz.prog 148 #[.slice (some ⟨G, 0, none⟩) l.length cap, .int .i64 0, .int .i64 l.length, .int .i64 lim, .func (.func 121) #[] #[.pointer (some ⟨b, 0, none⟩)]] w fun e w' =>
      e = .returned (.tuple #[]) ∧ Holds2 w' G c (sortG (fun x y => decide (cmpA ls x y < 0)) l) ∧ Below w0.heap.size w0 w' := by
  have CI := hid (cInsA G c cap l F C ls b w0 w ho hA hb hc hB hG hH hz hn)
  generalize sortG (fun x y => decide (cmpA ls x y < 0)) l = S at *
  clear ho hA hb hc hB hG hH hz
  generalize l.length = n at *
  have h12 : (n : Int) ≤ 12 := by omega
  go_enter Tryz.func148, Tryz.ntmps148
  go_wp2_with fail
  refine wp_loop_rounds 1 ?_
  rw [rounds_succ]
  go_wp2_with fail
  refine CI.out.mono ?_
  rintro e w1 ⟨rfl, h1, h2⟩
  have H1 := hid (And.intro h1 h2)
  clear h1 h2
  go_wp2_with fail
  (try simp only [Exit.inBlock, Exit.then])
  refine bodyPost_ret (results_none rfl _ _ _) rfl ?_
  exact ⟨rfl, H1.out.1, H1.out.2⟩

end Go.Proofs.YtmghipjpgoghlaaGreat
