/- Which of two attrs the program holds ahead: contracts of compareNames, meantAttr and of the closure that SortFunc is handed. Attrs put in order: contracts of slices.SortFunc over a row of attrs (at most twelve), by the program's closure. Contracts of the program's attrNamesOk, elementNamesOk and NamesOk. The library contracts that the proofs lean on, laid at this program: a field a fact of the program, each contract one application. -/
import Derived.Test.YteninofjeidljaaGreatM18
import Derived.Test.YteninofjeidljaaGreatM17
import Derived.Test.YteninofjeidljaaGreatM10
import Derived.Test.YteninofjeidljaaGreatM14
import Derived.Test.YteninofjeidljaaGreatProg
import Derived.Deep.RegionHeld3
import Derived.LoopN
import Derived.Shelf.Small.Bits
import Derived.Shelf.Strconv.Itoa0
namespace Go.Proofs.YteninofjeidljaaGreat

open Go.RowKit

set_option linter.unusedVariables false

set_option linter.unusedSimpArgs false

noncomputable def cmpN (M L N K : ByteArray) : Int := orV (cmpV M N) (cmpV L K)

theorem cmpN_ahead {ts : List Tk} {k : Nat} {x y : At} : decide (cmpN (atMean ts k x) (locS x.name) (atMean ts k y) (locS y.name) < 0) = aheadF ts k x y := by
  unfold cmpN aheadF cmpV orV
  cases h1 : ltB (atMean ts k x) (atMean ts k y) with
  | true => simp
  | false =>
    by_cases h2 : atMean ts k x = atMean ts k y
    · cases h3 : ltB (locS x.name) (locS y.name) with
      | true => simp [h2]
      | false =>
        by_cases h4 : locS x.name = locS y.name
        · simp [h2, h4]
        · simp [h2, h4]
    · simp [h2]

set_option maxRecDepth 4000 in
set_option maxHeartbeats 4000000 in
theorem cCompareNames (M L N K : ByteArray) (w : World) :
    Calls Tryz.prog 157 #[.agg #[.string M, .string L], .agg #[.string N, .string K]] w fun e w' => e = .returned (.int .i64 (cmpN M L N K)) ∧ Below w.heap.size w w' := by
  have HB := hid (((Below.refl w.heap.size w).alloc (Nat.le_refl _) (.cells #[.string M, .string L] 186)).alloc (by simp) (.cells #[.string N, .string K] 186))
  have C1 := hid (fun wx => cCompare M N wx)
  have C2 := hid (fun wx => cCompare L K wx)
  have CO := hid (fun g a b wx => cOr g a b wx)
  unfold cmpN
  generalize cmpV M N = P at *
  generalize cmpV L K = Q at *
  have M0 := blk_alloc (heap_alloc_new w (.cells #[.string M, .string L] 186)) (.cells #[.string N, .string K] 186)
  have M1 := heap_two w (.cells #[.string M, .string L] 186) (.cells #[.string N, .string K] 186)
  have hs : ((w.alloc (.cells #[.string M, .string L] 186)).alloc (.cells #[.string N, .string K] 186)).heap.size = w.heap.size + 2 := by simp
  obtain ⟨g, hg⟩ : ∃ g, w.heap.size = g := ⟨_, rfl⟩
  have Hg := hid hg
  go_enter Tryz.func157, Tryz.ntmps157
  go_wp2_with fail
  obtain ⟨W, hW⟩ : ∃ W, (w.alloc (.cells #[.string M, .string L] 186)).alloc (.cells #[.string N, .string K] 186) = W := ⟨_, rfl⟩
  rw [hW] at HB
  simp only [hW, hg] at M0 M1 hs ⊢
  have HSX := hid (show ∀ W', Below W.heap.size W W' → W'.cell? ⟨g, 0, none⟩ = some (.string M) ∧ W'.cell? ⟨g, 1, none⟩ = some (.string L) ∧ W'.cell? ⟨g + 1, 0, none⟩ = some (.string N) ∧ W'.cell? ⟨g + 1, 1, none⟩ = some (.string K) from fun W' hb => ⟨(box2e (blk_below M0 hb)).1.1, (box2e (blk_below M0 hb)).1.2, (box2e (blk_below M1 hb)).1.1, (box2e (blk_below M1 hb)).1.2⟩)
  have HBc := hid ((Below.refl W.heap.size W).drew)
  have K0 := hid ((box2e (heap_alloc_new W (.cells #[.int .i64 P, .int .i64 Q] 3))).1)
  have CX := hid (CO.out W.heap.size P Q (W.alloc (.cells #[.int .i64 P, .int .i64 Q] 3)).drew K0.out.1 K0.out.2)
  have HB9 := hid ((HB.out.alloc HB.out.size (.cells #[.int .i64 P, .int .i64 Q] 3)).drew)
  clear hW M0 M1 hs hg
  go_region_held3 (fun w' => w'.cell? ⟨g, 0, none⟩ = some (.string M) ∧ w'.cell? ⟨g, 1, none⟩ = some (.string L) ∧ w'.cell? ⟨g + 1, 0, none⟩ = some (.string N) ∧ w'.cell? ⟨g + 1, 1, none⟩ = some (.string K)) (first | exact HSX.out _ HBc.out | exact HSX.out _ (HBc.out.alloc HBc.out.size _))
    (first
      | (go_at_call 179; (with_reducible refine (C1.out _).mono ?_); rintro e w1 ⟨rfl, hw1⟩; subst hw1)
      | (go_at_call 179; (with_reducible refine (C2.out _).mono ?_); rintro e w1 ⟨rfl, hw1⟩; subst hw1)
      | (go_at_call 178; refine CX.out.mono ?_; rintro e w1 ⟨rfl, hw1⟩; subst hw1))
  go_wp2_with fail
  go_ret
  exact ⟨rfl, HB9.out⟩

/-- What an attr's name means by these. -/
noncomputable def mnL (ls : List At) (x : At) : ByteArray := if (preS x.name).size = 0 then ⟨#[]⟩ else (lookL ls (preS x.name)).getD ⟨#[]⟩

theorem mnL_mean {ts : List Tk} {k : Nat} (h : (outAts ts k).all rightB = true) (x : At) : mnL (outAts ts k) x = atMean ts k x := by
  unfold mnL atMean
  rw [meanF_look h]

set_option maxRecDepth 4000 in
set_option maxHeartbeats 2000000 in
theorem cMeantAttr (x : At) (F : FuncId) (C : Array Value) (ls : List At) (w : World) (hA : Asks F C w ls) (hx : x.name.size ≤ 1048576) :
    Calls Tryz.prog 158 #[.agg #[.string x.name, .string x.value], .func (.func F) #[] C] w fun e w' => e = .returned (.agg #[.string (mnL ls x), .string (locS x.name)]) ∧ Below w.heap.size w w' := by
  have CP := hid (fun wx => cPartsI x.name wx hx)
  have HB0 := hid (((Below.refl w.heap.size w).alloc (Nat.le_refl _) (.cells #[.string x.name, .string x.value] 114)).alloc (by simp) (.cells #[.string ⟨#[]⟩, .string ⟨#[]⟩] 186))
  have M1 := hid (heap_two w (.cells #[.string x.name, .string x.value] 114) (.cells #[.string ⟨#[]⟩, .string ⟨#[]⟩] 186))
  have he := hA.1 (preS x.name)
  have CM := hid (fun wx (hb : Below w.heap.size w wx) => hA.2 (preS x.name) wx hb (preS_sz hx))
  have E := empty_is (preS x.name)
  have HM := hid (show mnL ls x = if (preS x.name).size = 0 then ⟨#[]⟩ else (lookL ls (preS x.name)).getD ⟨#[]⟩ from rfl)
  generalize mnL ls x = V at *
  generalize (lookL ls (preS x.name)).getD ⟨#[]⟩ = M at *
  generalize (lookL ls (preS x.name)).isSome = I at *
  generalize preS x.name = P at *
  generalize locS x.name = L at *
  clear hA hx
  by_cases hq : P.size = 0
  · have HV := hid (show V = ⟨#[]⟩ by rw [HM.out, if_pos hq])
    rw [decide_eq_true hq] at E
    clear HM hq CM he
    go_enter Tryz.func158, Tryz.ntmps158
    go_wp2_with fail
    refine (CP.out _).mono ?_
    rintro e w1 ⟨rfl, hb1⟩
    have HB1 := hid (bb HB0.out hb1)
    obtain ⟨⟨y0, y1⟩, f0, f1⟩ := box2e (blk_below M1.out hb1)
    clear hb1
    go_wp2_with fail
    refine bodyPost_ret (v := .agg #[.string ⟨#[]⟩, .string L]) (by simp [results, Tryz.results158, go_sem, y0, y1]) rfl ⟨by rw [HV.out], ?_⟩
    iterate 2 refine Below.setCell ?_ (Nat.le_succ _) _
    exact HB1.out
  · have HV := hid (show V = M by rw [HM.out, if_neg hq])
    rw [decide_eq_false hq] at E
    clear HM hq
    go_enter Tryz.func158, Tryz.ntmps158
    go_wp2_with fail
    refine (CP.out _).mono ?_
    rintro e w1 ⟨rfl, hb1⟩
    have HB1 := hid (bb HB0.out hb1)
    have M2 := hid (blk_below M1.out hb1)
    clear hb1
    go_wp2_with fail
    refine (CM.out _ HB1.out).mono ?_
    rintro e w2 ⟨rfl, hb2⟩
    have HB2 := hid (bb HB1.out hb2)
    obtain ⟨⟨y0, y1⟩, f0, f1⟩ := box2e (blk_below M2.out hb2)
    clear hb2
    go_wp2_with fail
    refine bodyPost_ret (v := .agg #[.string M, .string L]) (by simp [results, Tryz.results158, go_sem, y0, y1]) rfl ⟨by rw [HV.out], ?_⟩
    iterate 2 refine Below.setCell ?_ (Nat.le_succ _) _
    exact HB2.out

/-- What the closure answers. -/
noncomputable def cmpA (ls : List At) (x y : At) : Int := cmpN (mnL ls x) (locS x.name) (mnL ls y) (locS y.name)

set_option maxRecDepth 4000 in
set_option maxHeartbeats 4000000 in
theorem cCmpA (x y : At) (F : FuncId) (C : Array Value) (ls : List At) (b : Nat) (w : World) (hA : Asks F C w ls) (hb : b < w.heap.size) (hc : w.cell? ⟨b, 0, none⟩ = some (.func (.func F) #[] C)) (hx : x.name.size ≤ 1048576) (hy : y.name.size ≤ 1048576) :
    Calls Tryz.prog 156 #[.agg #[.string x.name, .string x.value], .agg #[.string y.name, .string y.value], .pointer (some ⟨b, 0, none⟩)] w fun e w' => e = .returned (.int .i64 (cmpA ls x y)) ∧ Below w.heap.size w w' := by
  have HB := hid (((Below.refl w.heap.size w).alloc (Nat.le_refl _) (.cells #[.string x.name, .string x.value] 114)).alloc (by simp) (.cells #[.string y.name, .string y.value] 114))
  have M0 := hid (blk_alloc (heap_alloc_new w (.cells #[.string x.name, .string x.value] 114)) (.cells #[.string y.name, .string y.value] 114))
  have M1 := hid (heap_two w (.cells #[.string x.name, .string x.value] 114) (.cells #[.string y.name, .string y.value] 114))
  have HG := hid (HB.out.cell (p := ⟨b, 0, none⟩) hb |>.trans hc)
  obtain ⟨W, hW⟩ : ∃ W, (w.alloc (.cells #[.string x.name, .string x.value] 114)).alloc (.cells #[.string y.name, .string y.value] 114) = W := ⟨_, rfl⟩
  obtain ⟨g, hg⟩ : ∃ g, w.heap.size = g := ⟨_, rfl⟩
  have hWs : W.heap.size = g + 2 := by rw [← hW, ← hg]; simp
  rw [hW] at HB M0 M1 HG
  rw [hg] at M0 M1
  have CA := hid (fun p : BW W => cMeantAttr x F C ls p.w (hA.below (bb HB.out p.h)) hx)
  have CB := hid (fun p : BW W => cMeantAttr y F C ls p.w (hA.below (bb HB.out p.h)) hy)
  have CC := hid (fun p : BW W => cCompareNames (mnL ls x) (locS x.name) (mnL ls y) (locS y.name) p.w)
  have k0 : ∀ p : BW W, p.w.cell? ⟨g, 0, none⟩ = some (.string x.name) := fun p => (box2e (blk_below M0.out p.h)).1.1
  have k1 : ∀ p : BW W, p.w.cell? ⟨g, 1, none⟩ = some (.string x.value) := fun p => (box2e (blk_below M0.out p.h)).1.2
  have k2 : ∀ p : BW W, p.w.cell? ⟨g + 1, 0, none⟩ = some (.string y.name) := fun p => (box2e (blk_below M1.out p.h)).1.1
  have k3 : ∀ p : BW W, p.w.cell? ⟨g + 1, 1, none⟩ = some (.string y.value) := fun p => (box2e (blk_below M1.out p.h)).1.2
  have k4 : ∀ p : BW W, p.w.cell? ⟨b, 0, none⟩ = some (.func (.func F) #[] C) := fun p => (p.h.cell (p := ⟨b, 0, none⟩) (by show b < W.heap.size; omega)).trans HG.out
  have HNB := hid (bw_any W)
  have HW := hid hW
  have Hg := hid hg
  unfold cmpA
  generalize cmpN (mnL ls x) (locS x.name) (mnL ls y) (locS y.name) = V at *
  generalize mnL ls x = m1 at *
  generalize mnL ls y = m2 at *
  generalize locS x.name = l1 at *
  generalize locS y.name = l2 at *
  clear hA hc hx hy HG M0 M1 hWs hb hW hg
  go_enter Tryz.func156, Tryz.ntmps156
  go_wp2_with fail
  simp only [HW.out, Hg.out]
  haveI := HNB.out
  refine wp_region_below (by kernel_rfl) (by kernel_rfl) (Below.refl W.heap.size W) ?_
  repeat (go_big_quiet_step ((first | (go_at_call 158; first | (with_reducible exact calls_bw _ (CA.out _)) | (with_reducible exact calls_bw _ (CB.out _))) | (go_at_call 157; exact calls_bw _ (CC.out _)))))
  refine wpQuiet_nil ?_
  intro _ hw'
  obtain ⟨⟨wq, hwq⟩, hw''⟩ := hw'
  subst hw''
  have HWQ := hid (bb HB.out hwq)
  clear hwq k0 k1 k2 k3 k4
  go_wp2_with fail
  go_ret
  exact ⟨rfl, HWQ.out⟩

end Go.Proofs.YteninofjeidljaaGreat

namespace Go.Proofs.YteninofjeidljaaGreat

open Go.RowKit

set_option linter.unusedVariables false

set_option linter.unusedSimpArgs false

/-- A block of attrs, and room. -/
def Holds2 (w : World) (G c : Nat) (d : List At) : Prop := ∃ cu : Array Value, w.heap[G]? = some (.cells cu 114 (0, 0)) ∧ cu.size = c * 2 ∧ d.length ≤ c ∧ cu.toList.take (d.length * 2) = atC d

theorem Holds2.below {w w' : World} {B G c : Nat} {d : List At} (h : Holds2 w G c d) (hb : Below B w w') (hG : G < B) : Holds2 w' G c d := by
  obtain ⟨cu, h1, h2⟩ := h
  exact ⟨cu, (hb.block G hG).trans h1, h2⟩

theorem Holds2.lt {w : World} {G c : Nat} {d : List At} (h : Holds2 w G c d) : G < w.heap.size := by
  obtain ⟨cu, h1, _⟩ := h
  exact lt_of_heap h1

theorem Holds2.cells {w : World} {G c : Nat} {d : List At} (h : Holds2 w G c d) {j : Nat} (hj : j < d.length) : (w.cell? ⟨G, j * 2, none⟩ = some (.string d[j].name) ∧ w.cell? ⟨G, j * 2 + 1, none⟩ = some (.string d[j].value)) ∧ w.frozen? ⟨G, j * 2, none⟩ = false ∧ w.frozen? ⟨G, j * 2 + 1, none⟩ = false := by
  obtain ⟨cu, h1, h2, h3, h4⟩ := h
  obtain ⟨g1, g2⟩ := atC_get d j hj
  rw [← h4] at g1 g2
  rw [List.getElem?_take_of_lt (by omega)] at g1 g2
  refine ⟨⟨?_, ?_⟩, Lib.frozen_of_heap h1 _, Lib.frozen_of_heap h1 _⟩
  · rw [Lib.cell_of_heap h1, ← Array.getElem?_toList]; exact g1
  · rw [Lib.cell_of_heap h1, ← Array.getElem?_toList]; exact g2

theorem atC_set : ∀ (d : List At) (j : Nat) (x : At), j < d.length → atC (d.set j x) = ((atC d).set (j * 2) (.string x.name)).set (j * 2 + 1) (.string x.value)
  | [], j, x, h => absurd h (Nat.not_lt_zero _)
  | y :: d, 0, x, _ => rfl
  | y :: d, j + 1, x, h => by
    have ih := atC_set d j x (by simpa using h)
    show (Value.string y.name) :: (.string y.value) :: atC (d.set j x) = _
    rw [ih, show (j + 1) * 2 = j * 2 + 1 + 1 by omega]
    rfl

theorem Holds2.set {w : World} {G c : Nat} {d : List At} (h : Holds2 w G c d) {j : Nat} (hj : j < d.length) (x : At) : Holds2 ((w.setCell ⟨G, j * 2, none⟩ (.string x.name)).setCell ⟨G, j * 2 + 1, none⟩ (.string x.value)) G c (d.set j x) := by
  obtain ⟨cu, h1, h2, h3, h4⟩ := h
  refine ⟨_, heap_setCell_same _ _ _ _ _ _ (heap_setCell_same w G _ _ _ _ h1), by simpa using h2, by simpa using h3, ?_⟩
  rw [List.length_set, atC_set d j x hj, ← h4]
  simp only [Array.toList_setIfInBounds, List.take_set]

/-- One step of the walk from behind: two neighbours change places. -/
theorem swap_is {P : List At} {y x : At} {R : List At} : ((P ++ y :: x :: R).set (P.length + 1) y).set P.length x = P ++ x :: y :: R := by
  simp [List.set_append]

/-- What the walk from behind holds: the one in hand, what stands ahead of it, what it went past. -/
def MidA (lt : At → At → Bool) (S R : List At) (x : At) (wr : World) (G c j : Nat) : Prop := ∃ P Q, P.length = j ∧ P ++ Q = S ∧ (∀ q ∈ Q, lt x q = true) ∧ Holds2 wr G c (P ++ x :: (Q ++ R))

theorem MidA.start {lt : At → At → Bool} {S R : List At} {x : At} {wr : World} {G c j : Nat} (hS : S.length = j) (h : Holds2 wr G c (S ++ x :: R)) : MidA lt S R x wr G c j := ⟨S, [], hS, by simp, fun q hq => absurd hq List.not_mem_nil, by simpa using h⟩

theorem MidA.stop {lt : At → At → Bool} (ho : OrdB lt) {S R : List At} {x : At} {wr : World} {G c j : Nat} (h : MidA lt S R x wr G c j) (hS : RisesB lt S) (hs : j = 0 ∨ ∀ y, S[j - 1]? = some y → lt x y = false) : Holds2 wr G c (insG lt S x ++ R) := by
  obtain ⟨P, Q, h1, rfl, h3, h4⟩ := h
  rw [ins_stop ho hS h3 (fun y hy => ?_)]
  · simpa using h4
  · rcases hs with rfl | hs
    · rw [List.length_eq_zero_iff.1 h1] at hy; cases hy
    · refine hs y ?_
      rw [← h1]
      have hne : P ≠ [] := fun e => by rw [e] at hy; cases hy
      have hl : P.length - 1 < P.length := by have := List.length_pos_iff.2 hne; omega
      rw [List.getElem?_append_left hl, ← List.getLast?_eq_getElem?]
      exact hy

theorem MidA.below {lt : At → At → Bool} {S R : List At} {x : At} {w w' : World} {B G c j : Nat} (h : MidA lt S R x w G c j) (hb : Below B w w') (hG : G < B) : MidA lt S R x w' G c j := by
  obtain ⟨P, Q, h1, h2, h3, h4⟩ := h
  exact ⟨P, Q, h1, h2, h3, h4.below hb hG⟩

theorem MidA.drew {lt : At → At → Bool} {S R : List At} {x : At} {w : World} {G c j : Nat} (h : MidA lt S R x w G c j) : MidA lt S R x w.drew G c j := by
  obtain ⟨P, Q, h1, h2, h3, h4⟩ := h
  exact ⟨P, Q, h1, h2, h3, h4⟩

theorem MidA.look {lt : At → At → Bool} {S R : List At} {x : At} {wr : World} {G c jp : Nat} (h : MidA lt S R x wr G c (jp + 1)) : ∃ y, S[jp]? = some y ∧ y ∈ S ∧ ((wr.cell? ⟨G, (jp + 1) * 2, none⟩ = some (.string x.name) ∧ wr.cell? ⟨G, (jp + 1) * 2 + 1, none⟩ = some (.string x.value)) ∧ wr.frozen? ⟨G, (jp + 1) * 2, none⟩ = false ∧ wr.frozen? ⟨G, (jp + 1) * 2 + 1, none⟩ = false)
    ∧ ((wr.cell? ⟨G, jp * 2, none⟩ = some (.string y.name) ∧ wr.cell? ⟨G, jp * 2 + 1, none⟩ = some (.string y.value)) ∧ wr.frozen? ⟨G, jp * 2, none⟩ = false ∧ wr.frozen? ⟨G, jp * 2 + 1, none⟩ = false) ∧ G < wr.heap.size
    ∧ (lt x y = true → ∀ w', w' = (((wr.setCell ⟨G, (jp + 1) * 2, none⟩ (.string y.name)).setCell ⟨G, (jp + 1) * 2 + 1, none⟩ (.string y.value)).setCell ⟨G, jp * 2, none⟩ (.string x.name)).setCell ⟨G, jp * 2 + 1, none⟩ (.string x.value) → MidA lt S R x w' G c jp) := by
  obtain ⟨P, Q, h1, rfl, h3, h4⟩ := h
  have hl : jp < P.length := by omega
  have hn : jp + 1 < (P ++ x :: (Q ++ R)).length := by simp only [List.length_append, List.length_cons]; omega
  have k1 := h4.cells hn
  have k2 := h4.cells (j := jp) (by omega)
  have e1 : (P ++ x :: (Q ++ R))[jp + 1] = x := by
    rw [List.getElem_append_right (by omega)]
    simp [h1]
  have e2 : (P ++ x :: (Q ++ R))[jp] = P[jp] := List.getElem_append_left hl
  rw [e1] at k1
  rw [e2] at k2
  refine ⟨P[jp], by rw [List.getElem?_append_left hl, List.getElem?_eq_getElem hl], List.mem_append_left _ (List.getElem_mem hl), k1, k2, h4.lt, fun hlt w' hw => ?_⟩
  have hP : P = P.take jp ++ [P[jp]] := by
    have := List.take_append_drop jp P
    rw [List.drop_eq_getElem_cons hl, List.drop_of_length_le (by omega)] at this
    exact this.symm
  have hlen : (P.take jp).length = jp := by rw [List.length_take]; omega
  refine ⟨P.take jp, P[jp] :: Q, hlen, ?_, fun q hq => ?_, ?_⟩
  · have : P.take jp ++ P[jp] :: Q = (P.take jp ++ [P[jp]]) ++ Q := by rw [List.append_assoc]; rfl
    rw [this, ← hP]
  · rcases List.mem_cons.1 hq with rfl | hq
    · exact hlt
    · exact h3 q hq
  · have h5 := (h4.set hn P[jp]).set (j := jp) (by rw [List.length_set]; omega) x
    rw [← hw] at h5
    have h6 : ((P ++ x :: (Q ++ R)).set (jp + 1) P[jp]).set jp x = P.take jp ++ x :: (P[jp] :: Q ++ R) := by
      have := swap_is (P := P.take jp) (y := P[jp]) (x := x) (R := Q ++ R)
      rw [hlen] at this
      have e : P ++ x :: (Q ++ R) = P.take jp ++ P[jp] :: x :: (Q ++ R) := by
        have : P.take jp ++ P[jp] :: x :: (Q ++ R) = (P.take jp ++ [P[jp]]) ++ x :: (Q ++ R) := by rw [List.append_assoc]; rfl
        rw [this, ← hP]
      rw [e, this]
      rfl
    rw [h6] at h5
    exact h5

set_option maxRecDepth 8000 in
set_option maxHeartbeats 4000000 in
theorem cInsA (G c cap : Nat) (l : List At) (F : FuncId) (C : Array Value) (ls : List At) (b : Nat) (w0 w : World) (ho : OrdB (fun x y => decide (cmpA ls x y < 0))) (hA : Asks F C w0 ls) (hb : b < w0.heap.size) (hc : w0.cell? ⟨b, 0, none⟩ = some (.func (.func F) #[] C))
    (hB : Below w0.heap.size w0 w) (hG : w0.heap.size ≤ G) (hH : Holds2 w G c l) (hz : AtSz 1048576 l) (hn : l.length ≤ 12) :
    Calls Tryz.prog 186 #[.slice (some ⟨G, 0, none⟩) l.length cap, .int .i64 0, .int .i64 l.length, .func (.func 156) #[] #[.pointer (some ⟨b, 0, none⟩)]] w fun e w' =>
      e = .returned (.tuple #[]) ∧ Holds2 w' G c (sortG (fun x y => decide (cmpA ls x y < 0)) l) ∧ Below w0.heap.size w0 w' := by
  obtain ⟨lt, hlt⟩ : ∃ lt : At → At → Bool, lt = fun x y => decide (cmpA ls x y < 0) := ⟨_, rfl⟩
  have HLT := hid (show ∀ x y, lt x y = decide (cmpA ls x y < 0) from fun x y => by rw [hlt])
  rw [← hlt] at ho ⊢
  clear hlt
  have HO := hid ho
  have CC := hid (fun (x y : At) (wx : World) (hbx : Below w0.heap.size w0 wx) (hx : x.name.size ≤ 1048576) (hy : y.name.size ≤ 1048576) => cCmpA x y F C ls b wx (hA.below hbx) (Nat.lt_of_lt_of_le hb hbx.size) ((hbx.cell (p := ⟨b, 0, none⟩) hb).trans hc) hx hy)
  have HZ := hid hz
  have HH := hid hH
  have HBB := hid hB
  have he : ∀ args (wx : World), (callFunc 156 args).run Tryz.prog wx = .ok (.enter 156 args) wx := fun args wx => enters Tryz.func156 (by kernel_rfl) rfl _ wx
  have HG := hid hG
  clear ho hA hb hc hB hG hH hz
  obtain ⟨n, hnn⟩ : ∃ n, l.length = n := ⟨_, rfl⟩
  have HN := hid hnn
  rw [hnn] at hn ⊢
  clear hnn
  go_enter Tryz.func186, Tryz.ntmps186
  go_wp2_with fail
  go_loopw [8] (fun vi wr => ∃ i : Nat, vi = .int .i64 (i : Int) ∧ 1 ≤ i ∧ i ≤ 13 ∧ (i = 1 ∨ i ≤ n) ∧ Hid (Holds2 wr G c (sortG lt (l.take i) ++ l.drop i)) ∧ Hid (Below w0.heap.size w0 wr)) (fun k _ => 14 - (intOf k).toNat)
  case atStart => exact ⟨1, rfl, by omega, by omega, .inl rfl, by
    show Holds2 _ _ _ _
    have e : sortG lt (l.take 1) ++ l.drop 1 = l := by
      cases l with
      | nil => rfl
      | cons x l => rfl
    rw [e]; exact HH.out, HBB.out⟩
  case round =>
    obtain ⟨i, rfl, hi1, hi2, hi3, HD, HB⟩ := hrel
    by_cases hlt : i < n
    · have his : i < l.length := by rw [HN.out]; exact hlt
      have hin : (i : Int) < (n : Int) := by omega
      obtain ⟨x, hx⟩ : ∃ x, l[i] = x := ⟨_, rfl⟩
      obtain ⟨S, hS⟩ : ∃ S, sortG lt (l.take i) = S := ⟨_, rfl⟩
      obtain ⟨s1, s2, s3⟩ := sort_all HO.out (l.take i)
      have HNX := hid (show sortG lt (l.take (i + 1)) = insG lt S x by rw [sort_next lt his, hx, hS])
      rw [hS] at s1 s2 s3 HD
      have HSR := hid s1
      have HSZ := hid (show ∀ y ∈ S, y.name.size ≤ 1048576 from fun y hy => (HZ.out y (List.mem_of_mem_take ((s3 y).1 hy))).1)
      have HXZ := hid (show x.name.size ≤ 1048576 by rw [← hx]; exact (HZ.out _ (List.getElem_mem his)).1)
      have HMD := hid (MidA.start (lt := lt) (S := S) (R := l.drop (i + 1)) (x := x) (wr := wr) (G := G) (c := c) (j := i) (by rw [s2, List.length_take]; omega) (by have := HD.out; rw [List.drop_eq_getElem_cons his, hx] at this; exact this))
      clear hx hS s1 s2 s3 HD
      obtain ⟨R, hR⟩ : ∃ R, l.drop (i + 1) = R := ⟨_, rfl⟩
      rw [hR] at HMD
      have HRR := hid hR
      clear hR
      go_wp2_with fail
      go_loopw [9] (fun vj wr2 => ∃ j : Nat, vj = .int .i64 (j : Int) ∧ j ≤ i ∧ Hid (MidA lt S R x wr2 G c j) ∧ Hid (Below w0.heap.size w0 wr2)) (fun k _ => (intOf k).toNat)
      case atStart => exact ⟨i, rfl, Nat.le_refl _, HMD.out, HB.out⟩
      case round =>
        obtain ⟨j, rfl, hj, HM, HB2⟩ := hrel
        have HNB := hid (bw_any wr)
        rcases Nat.eq_zero_or_pos j with hj0 | hj0
        · have HE := hid (HM.out.stop HO.out HSR.out (.inl hj0))
          subst hj0
          have hd : decide (((0 : Nat) : Int) > 0) = false := rfl
          go_wp2_with fail
          haveI := HNB.out
          refine wp_region_below (by kernel_rfl) (by kernel_rfl) (Below.refl wr.heap.size wr) ?_
          repeat (go_big_quiet_step (fail))
          refine wpQuiet_nil ?_
          intro _ hw'
          obtain ⟨⟨wq, hwq⟩, hw''⟩ := hw'
          subst hw''
          have HBQ := hid (bb HB2.out hwq)
          have HEQ := hid (HE.out.below hwq HE.out.lt)
          clear hwq HE this
          go_wp2_with fail
          go_roundw
          case rel => exact ⟨i + 1, by go_num, by omega, by omega, by omega, by rw [HNX.out, HRR.out]; exact HEQ.out, HBQ.out⟩
          case measure => simp [intOf]; omega
        · obtain ⟨jp, rfl⟩ : ∃ jp, j = jp + 1 := ⟨j - 1, by omega⟩
          obtain ⟨y, hy, hyS, ⟨⟨x1, x2⟩, x3, x4⟩, ⟨⟨y1, y2⟩, y3, y4⟩, hGl, hsw⟩ := HM.out.look
          have CA := hid (fun p : BW wr => CC.out x y p.w (bb HB2.out p.h) HXZ.out (HSZ.out y hyS))
          have HLX := hid (HLT.out x y)
          have HSW := hid hsw
          have HSTOP := hid (show lt x y = false → Holds2 wr G c (insG lt S x ++ R) from fun h => HM.out.stop HO.out HSR.out (.inr (fun z hz => by
            rw [Nat.add_sub_cancel, hy] at hz
            cases hz
            exact h)))
          have HGL := hid hGl
          obtain ⟨k1, k2⟩ := pair_bw hGl x1 x2
          obtain ⟨k3, k4⟩ := pair_bw hGl y1 y2
          have HX := hid (And.intro (And.intro x1 x2) (And.intro x3 x4))
          have HY := hid (And.intro (And.intro y1 y2) (And.intro y3 y4))
          have HMM := hid HM.out
          have HYS := hid hy
          clear hy hyS hGl hsw HM HSZ HXZ x1 x2 x3 x4 y1 y2 y3 y4
          generalize x.name = xn at *
          generalize x.value = xv at *
          generalize y.name = yn at *
          generalize y.value = yv at *
          generalize cmpA ls x y = V at *
          have hd : decide (((jp + 1 : Nat) : Int) > 0) = true := decide_eq_true (by omega)
          have e1 : ((jp + 1 : Nat) : Int) - 1 = (jp : Int) := by omega
          have j1 : (jp : Int) + 1 < (n : Int) := by omega
          have j2 : (jp : Int) < (n : Int) := by omega
          have hdr : decide (V < 0) = lt x y := HLX.out.symm
          cases hq : lt x y with
          | false =>
            have HE := hid (HSTOP.out hq)
            rw [hq] at hdr
            go_wp2_with fail
            haveI := HNB.out
            refine wp_region_below (by kernel_rfl) (by kernel_rfl) (Below.refl wr.heap.size wr) ?_
            repeat (go_big_quiet_step ((go_at_call 156; exact calls_bw _ (CA.out _))))
            refine wpQuiet_nil ?_
            intro _ hw'
            obtain ⟨⟨wq, hwq⟩, hw''⟩ := hw'
            subst hw''
            have HBQ := hid (bb HB2.out hwq)
            have HEQ := hid (HE.out.below hwq HE.out.lt)
            clear hwq HE this k1 k2 k3 k4
            go_wp2_with fail
            go_roundw
            case rel => exact ⟨i + 1, by go_num, by omega, by omega, by omega, by rw [HNX.out, HRR.out]; exact HEQ.out, HBQ.out⟩
            case measure => simp [intOf]; omega
          | true =>
            rw [hq] at hdr
            go_wp2_with fail
            haveI := HNB.out
            refine wp_region_below (by kernel_rfl) (by kernel_rfl) (Below.refl wr.heap.size wr) ?_
            repeat (go_big_quiet_step ((go_at_call 156; exact calls_bw _ (CA.out _))))
            refine wpQuiet_nil ?_
            intro _ hw'
            obtain ⟨⟨wq, hwq⟩, hw''⟩ := hw'
            subst hw''
            have HBQ := hid (bb HB2.out hwq)
            have HMQ := hid (HMM.out.below hwq HGL.out)
            obtain ⟨z, hz, hzS, ⟨⟨x1, x2⟩, x3, x4⟩, ⟨⟨y1, y2⟩, y3, y4⟩, hGl, hsw⟩ := HMQ.out.look
            clear hwq this k1 k2 k3 k4
            have HZQ := hid (hsw (by rw [HYS.out] at hz; cases hz; exact hq))
            clear hz hzS hsw hGl
            go_wp2_with fail
            go_region
            all_goals go_wp2_with fail
            go_roundw
            case rel =>
              refine ⟨jp, by go_num, by omega, (HZQ.out _ rfl).drew, ?_⟩
              show Below _ _ _
              refine Below.drew ?_
              iterate 4 refine Below.setCell ?_ HG.out _
              exact HBQ.out
            case measure => simp [intOf]
    · have hin : ¬ (i : Int) < (n : Int) := by omega
      have HE := hid (show Holds2 wr G c (sortG lt l) by
        have h := HD.out
        rw [List.take_of_length_le (by rw [HN.out]; omega), List.drop_of_length_le (by rw [HN.out]; omega), List.append_nil] at h
        exact h)
      go_wp2_with fail
      go_end0
      exact ⟨rfl, HE.out, HB.out⟩

set_option maxRecDepth 8000 in
set_option maxHeartbeats 4000000 in
theorem cPdqA (G c cap : Nat) (l : List At) (lim : Int) (F : FuncId) (C : Array Value) (ls : List At) (b : Nat) (w0 w : World) (ho : OrdB (fun x y => decide (cmpA ls x y < 0))) (hA : Asks F C w0 ls) (hb : b < w0.heap.size) (hc : w0.cell? ⟨b, 0, none⟩ = some (.func (.func F) #[] C))
    (hB : Below w0.heap.size w0 w) (hG : w0.heap.size ≤ G) (hH : Holds2 w G c l) (hz : AtSz 1048576 l) (hn : l.length ≤ 12) :
    Calls Tryz.prog 176 #[.slice (some ⟨G, 0, none⟩) l.length cap, .int .i64 0, .int .i64 l.length, .int .i64 lim, .func (.func 156) #[] #[.pointer (some ⟨b, 0, none⟩)]] w fun e w' =>
      e = .returned (.tuple #[]) ∧ Holds2 w' G c (sortG (fun x y => decide (cmpA ls x y < 0)) l) ∧ Below w0.heap.size w0 w' := by
  have CI := hid (cInsA G c cap l F C ls b w0 w ho hA hb hc hB hG hH hz hn)
  generalize sortG (fun x y => decide (cmpA ls x y < 0)) l = S at *
  clear ho hA hb hc hB hG hH hz
  generalize l.length = n at *
  have h12 : (n : Int) ≤ 12 := by omega
  go_enter Tryz.func176, Tryz.ntmps176
  go_wp2_with fail
  refine wp_loop_rounds 1 ?_
  rw [rounds_succ]
  go_wp2_with fail
  refine CI.out.mono ?_
  rintro e w1 ⟨rfl, h1, h2⟩
  have H1 := hid (And.intro h1 h2)
  clear h1 h2
  go_wp2_with fail
  (try simp only [Exit.inBlock, Exit.then])
  refine bodyPost_ret (results_none rfl _ _ _) rfl ?_
  exact ⟨rfl, H1.out.1, H1.out.2⟩

end Go.Proofs.YteninofjeidljaaGreat

namespace Go.Proofs.YteninofjeidljaaGreat

open Go.RowKit

set_option linter.unusedVariables false

set_option linter.unusedSimpArgs false

theorem infoPr : (Tryz.prog.info? 186).map (fun i => (i.zero, i.size, i.bytes)) = some (some (.agg #[.string ⟨#[]⟩, .string ⟨#[]⟩]), 2, 32) := by kernel_rfl

theorem two_cell (t : TypeId) (w : World) (x y : Value) : ∀ j u, [x, y][j]? = some u → (w.alloc (.cells #[x, y] t)).cell? ((⟨w.heap.size, 0, none⟩ : Addr).add j) = some u := by
  intro j u hj
  match j, hj with
  | 0, hj => simp at hj; subst hj; simp [Addr.add]
  | 1, hj => simp at hj; subst hj; simp [Addr.add]

theorem two_str (s t : ByteArray) : ∀ u ∈ [Value.string s, .string t], u.oneCell' = true := by
  intro u hu
  simp at hu
  rcases hu with rfl | rfl <;> rfl

set_option maxRecDepth 4000 in
set_option maxHeartbeats 8000000 in
theorem cAttrNames (aa : Option Addr) (ca : Nat) (at0 : List At) (F : FuncId) (C : Array Value) (ts : List Tk) (i : Nat) (w : World) (B : Bool) (hB : B = true ↔ AttrsN ts i at0) (hF : Asks F C w (outAts ts i)) (hr : (outAts ts i).all rightB = true) (hR : AtRow w aa at0) (hz : AtSz 1048576 at0) (hn : at0.length ≤ 1048576) :
    Calls Tryz.prog 151 #[.slice aa at0.length ca, .func (.func F) #[] C] w fun e w' => e = .returned (.bool B) ∧ Below w.heap.size w w' := by
  obtain ⟨i0, hi, hz0, hz1, hz2⟩ := info_parts infoPr
  have HI := hid (And.intro hi (And.intro hz0 (And.intro hz1 hz2)))
  clear hi hz0 hz1 hz2
  have HBT := hid (show AttrsN ts i at0 → B = true from hB.2)
  have HBF := hid (show ¬ AttrsN ts i at0 → B = false from fun h => by
    cases B with
    | false => rfl
    | true => exact absurd (hB.1 rfl) h)
  have HMEM := hid (fun l x => pair_mem hr l x)
  have HE := hid hF.1
  have CF := hid (fun p wx (hb : Below w.heap.size w wx) (hp : p.size ≤ 1048576) => hF.2 p wx hb hp)
  have HLK := hid (fun p => meanF_look hr p)
  have HR := hid hR
  have HZ := hid hz
  clear hB hF hr hR hz
  obtain ⟨n, hnn⟩ : ∃ n, at0.length = n := ⟨_, rfl⟩
  have HN := hid hnn
  rw [hnn] at hn ⊢
  clear hnn
  go_enter Tryz.func151, Tryz.ntmps151
  go_wp2_with fail
  go_loopw [5, 15] (fun v5 v15 wr => ∃ (j : Nat) (a8 : Option Addr) (c8 : Nat) (ps : List (ByteArray × ByteArray)), v15 = .int .i64 (j : Int) ∧ j ≤ n ∧ v5 = .slice a8 ps.length c8 ∧ ps.length ≤ j ∧ Hid (ps = pairsN ts i (at0.take j) ∧ AttrsN ts i (at0.take j)) ∧ Hid (wr.ownsRow w.heap.size 186 2 (.slice a8 ps.length c8) ps.length (prC ps)) ∧ Hid (Below w.heap.size w wr)) (fun _ v15 _ => n - (intOf v15).toNat)
  case atStart => exact ⟨0, none, 0, [], rfl, Nat.zero_le _, rfl, Nat.zero_le _, ⟨rfl, by rw [List.take_zero]; exact attrsN_nil.1⟩, World.ownsRow_nil _ _ _ _, Below.refl _ _⟩
  case round =>
    obtain ⟨j, a8, c8, ps, rfl, hj, rfl, hps, HK, HO, HB⟩ := hrel
    by_cases hjl : j < n
    · have hjt : j < at0.length := by rw [HN.out]; exact hjl
      have hjn : (j : Int) < (n : Int) := by omega
      obtain ⟨b, o, rfl, hb, c1, c2⟩ := (HR.out.below HB.out) j hjt
      have HS := hid (HZ.out _ (List.getElem_mem hjt))
      have HTS := hid (take_snocN hjt)
      obtain ⟨y, hy⟩ : ∃ y, at0[j] = y := ⟨_, rfl⟩
      rw [hy] at c1 c2 HS HTS
      clear hy
      have HNT := hid (show ¬ AttrsN ts i (at0.take j ++ [y]) → B = false from fun h => HBF.out (fun ha => h (by rw [← HTS.out]; exact attrsN_take (j + 1) ha)))
      have CP := hid (fun wx => cPartsI y.name wx HS.out.1)
      have hcn := cntB_is y
      have HPN := hid (show pairN ts i y = ((meanF ts i (preS y.name)).getD ⟨#[]⟩, locS y.name) from rfl)
      have CM := hid (fun wx (hb : Below w.heap.size w wx) => CF.out (preS y.name) wx hb (preS_sz HS.out.1))
      rw [← HLK.out] at CM
      have HMI := hid (fun (h : cntB y = true) (q : (meanF ts i (preS y.name)).isSome = false) => HNT.out (attrsN_bad h (.inl q)))
      have HMK := hid (fun (h : cntB y = true) (q : pairN ts i y ∈ ps) => HNT.out (attrsN_bad h (.inr ((HMEM.out _ _).2 (by rw [← HK.out.1]; exact q)))))
      have HMO := hid (fun (h : cntB y = true) (q : (meanF ts i (preS y.name)).isSome = true) (q2 : ¬ pairN ts i y ∈ ps) => (attrsN_more HK.out.2 h q (fun h3 => q2 (by rw [HK.out.1]; exact (HMEM.out _ _).1 h3))).1)
      have EP := empty_is (preS y.name)
      have EN := ns_beq (preS y.name)
      have he := HE.out (preS y.name)
      obtain ⟨M, hM⟩ : ∃ M, (meanF ts i (preS y.name)).getD ⟨#[]⟩ = M := ⟨_, rfl⟩
      obtain ⟨I, hI⟩ : ∃ I, (meanF ts i (preS y.name)).isSome = I := ⟨_, rfl⟩
      rw [hM] at CM HPN
      rw [hI] at CM HMI HMO
      obtain ⟨P, hP⟩ : ∃ P, preS y.name = P := ⟨_, rfl⟩
      obtain ⟨L, hL⟩ : ∃ L, locS y.name = L := ⟨_, rfl⟩
      rw [hP] at CP CM EP EN he hcn
      rw [hL] at CP HPN
      rw [HPN.out] at HMK HMO
      clear hM hI hP hL HMEM HLK
      have HBX := hid (HB.out.alloc HB.out.size (.cells #[.string y.name, .string y.value] 114))
      have HO1 := hid (HO.out.alloc (.cells #[.string y.name, .string y.value] 114))
      obtain ⟨nk, hnk⟩ : ∃ nk, ps.length = nk := ⟨_, rfl⟩
      have HNK := hid hnk
      rw [hnk] at hps HO1 ⊢
      clear hnk HO
      obtain ⟨nm, hnm⟩ : ∃ nm, y.name = nm := ⟨_, rfl⟩
      obtain ⟨vl, hvl⟩ : ∃ vl, y.value = vl := ⟨_, rfl⟩
      rw [hnm] at c1 CP HBX HO1
      rw [hvl] at c2 HBX HO1
      clear hnm hvl
      go_wp2_with fail
      refine (CP.out _).mono ?_
      rintro e w1 ⟨rfl, hb1⟩
      have HB1 := hid (bb HBX.out hb1)
      have HO2 := hid (ownsRow_below HO1.out hb1)
      clear hb1 HBX CP c1 c2 HO1 hb HB
      by_cases h0 : P.size = 0
      · rw [decide_eq_true h0] at EP hcn
        have HC := hid (show cntB y = false from hcn)
        have HS2 := hid (attrsN_skip HK.out.2 HC.out)
        have HS3 := hid (pairsN_skip (ts := ts) (i := i) (l := at0.take j) HC.out)
        rw [← HTS.out] at HS2 HS3
        clear hcn h0 he EN
        go_wp2_with fail
        go_roundw
        case rel => exact ⟨j + 1, a8, c8, ps, by go_num, by omega, by rw [HNK.out], by rw [HNK.out]; omega, ⟨by rw [HS3.out]; exact HK.out.1, HS2.out.1⟩, by rw [HNK.out]; exact HO2.out, HB1.out⟩
        case measure => simp [intOf]; omega
      · rw [decide_eq_false h0] at EP hcn
        by_cases h1 : P = nsS
        · rw [decide_eq_true h1] at EN hcn
          have HC := hid (show cntB y = false from hcn)
          have HS2 := hid (attrsN_skip HK.out.2 HC.out)
          have HS3 := hid (pairsN_skip (ts := ts) (i := i) (l := at0.take j) HC.out)
          rw [← HTS.out] at HS2 HS3
          clear hcn h0 h1 he
          go_wp2_with fail
          go_roundw
          case rel => exact ⟨j + 1, a8, c8, ps, by go_num, by omega, by rw [HNK.out], by rw [HNK.out]; omega, ⟨by rw [HS3.out]; exact HK.out.1, HS2.out.1⟩, by rw [HNK.out]; exact HO2.out, HB1.out⟩
          case measure => simp [intOf]; omega
        · rw [decide_eq_false h1] at EN hcn
          have HC := hid (show cntB y = true from hcn)
          clear hcn h0 h1
          go_wp2_with fail
          refine (CM.out _ HB1.out).mono ?_
          rintro e w2 ⟨rfl, hb2⟩
          have HB2 := hid (bb HB1.out hb2)
          have HO3 := hid (ownsRow_below HO2.out hb2)
          clear hb2 CM HO2 HB1 he
          have HBY := hid (HB2.out.alloc HB2.out.size (.cells #[.string M, .string L] 186))
          have HO4 := hid (HO3.out.alloc (.cells #[.string M, .string L] 186))
          have HBOX := hid (box_two w2 (.string M) (.string L) 186)
          cases I with
          | false =>
            have HV := hid (HMI.out HC.out rfl)
            go_wp2_with fail
            go_ret
            exact ⟨by rw [HV.out]; rfl, HBY.out⟩
          | true =>
            have CC := hid (cContainsP a8 c8 ps M L (w2.alloc (.cells #[.string M, .string L] 186)) (PrRow.of (by rw [HNK.out]; exact HO4.out)) (by rw [HNK.out]; omega))
            rw [HNK.out] at CC
            obtain ⟨H, hH⟩ : ∃ H, hasP ps (M, L) = H := ⟨_, rfl⟩
            have HH := hid hH
            rw [hH] at CC
            clear hH
            go_wp2_with fail
            refine CC.out.mono ?_
            rintro e w3 ⟨rfl, hb3⟩
            have HB3 := hid (bb HBY.out hb3)
            have HO5 := hid (ownsRow_below HO4.out hb3)
            have d1 := (hb3.cell (p := ⟨w2.heap.size, 0, none⟩) HBOX.out.2.2).trans HBOX.out.1
            have d2 := (hb3.cell (p := ⟨w2.heap.size, 1, none⟩) HBOX.out.2.2).trans HBOX.out.2.1
            clear hb3 CC HO4 HBY HBOX HB2 HO3
            cases H with
            | true =>
              have HV := hid (HMK.out HC.out (by
                have h := HH.out
                unfold hasP at h
                simpa using h))
              go_wp2_with fail
              go_ret
              exact ⟨by rw [HV.out]; rfl, HB3.out⟩
            | false =>
              have HS2 := hid (HMO.out HC.out (by first | rfl | trivial) (by
                have h := HH.out
                unfold hasP at h
                simpa using h))
              have HS3 := hid (pairsN_more (ts := ts) (i := i) (l := at0.take j) HC.out)
              rw [← HTS.out] at HS2 HS3
              rw [HPN.out, ← HK.out.1] at HS3
              have hsz := HB3.out.size
              go_wp2_with (at_builtin; refine wpList_append_own _ rfl _ _ 196 rfl w.heap.size 186 i0 (.agg #[.string ⟨#[]⟩, .string ⟨#[]⟩]) 2 32 Tryz.underlying196 HI.out.1 HI.out.2.1 HI.out.2.2.1 HI.out.2.2.2 rfl (by decide) _ _ _ rfl (HO5.out.alloc _) ⟨w3.heap.size, 0, none⟩ 1 1 [.string M, .string L] rfl rfl (two_cell _ _ _ _) (two_str _ _) (by unfold maxLen; omega) (by omega) (by simp; omega) ?_)
              intro v' w7 hown' hgrow _
              have HB7 := hid ((HB3.out.alloc hsz _).grown hgrow (by simp; omega) (fun k hk => (HO5.out.lt k hk).1))
              rw [← HNK.out] at hown'
              obtain ⟨a9, c9, rfl, ho9⟩ := prs_more (q := (M, L)) hown'
              have HO9 := hid ho9
              clear hown' hgrow ho9
              have HL9 := hid (show (ps ++ [(M, L)]).length ≤ j + 1 by rw [List.length_append, HNK.out]; show _ + 1 ≤ _; omega)
              generalize ps ++ [(M, L)] = ps9 at *
              go_wp2_with fail
              go_roundw
              case rel => exact ⟨j + 1, a9, c9, ps9, by go_num, by omega, rfl, HL9.out, ⟨HS3.out.symm, HS2.out⟩, HO9.out, HB7.out⟩
              case measure => simp [intOf]; omega
    · have HV := hid (HBT.out (by
        have h := HK.out.2
        rw [List.take_of_length_le (by rw [HN.out]; omega)] at h
        exact h))
      have hjn : j = n := by omega
      subst hjn
      generalize ps.length = nk at *
      go_wp2_with fail
      go_ret
      exact ⟨by rw [HV.out]; rfl, HB.out⟩

theorem box_four (w : World) (x y z u : Value) (T : TypeId) : (w.alloc (.cells #[x, y, z, u] T)).cell? ⟨w.heap.size, 0, none⟩ = some x ∧ (w.alloc (.cells #[x, y, z, u] T)).cell? ⟨w.heap.size, 1, none⟩ = some y
    ∧ (w.alloc (.cells #[x, y, z, u] T)).cell? ⟨w.heap.size, 2, none⟩ = some z ∧ (w.alloc (.cells #[x, y, z, u] T)).cell? ⟨w.heap.size, 3, none⟩ = some u ∧ w.heap.size < (w.alloc (.cells #[x, y, z, u] T)).heap.size := by
  refine ⟨?_, ?_, ?_, ?_, by simp⟩
  all_goals (rw [Lib.cell_of_heap (heap_alloc_new w _)]; rfl)

set_option maxRecDepth 4000 in
set_option maxHeartbeats 4000000 in
theorem cElementNames (t : Tk) (aa : Option Addr) (ca : Nat) (F : FuncId) (C : Array Value) (ts : List Tk) (i : Nat) (w : World) (B : Bool) (hB : B = true ↔ ((meanF ts i (preS t.name)).isSome = true ∧ ¬ preS t.name = nsS ∧ AttrsN ts i t.attrs)) (hF : Asks F C w (outAts ts i)) (hr : (outAts ts i).all rightB = true) (hR : AtRow w aa t.attrs) (hz : TkSz 1048576 t) :
    Calls Tryz.prog 116 #[.agg #[.int .i64 t.kind, .string t.name, .slice aa t.attrs.length ca, .string t.text], .func (.func F) #[] C] w fun e w' => e = .returned (.bool B) ∧ Below w.heap.size w w' := by
  have HBA := hid ((Below.refl w.heap.size w).alloc (Nat.le_refl _) (.cells #[.int .i64 t.kind, .string t.name, .slice aa t.attrs.length ca, .string t.text] 42))
  have HBOX := hid (box_four w (.int .i64 t.kind) (.string t.name) (.slice aa t.attrs.length ca) (.string t.text) 42)
  have CP := hid (fun wx => cPartsI t.name wx hz.1)
  have he := hF.1 (preS t.name)
  have CM := hid (fun wx (hb : Below w.heap.size w wx) => hF.2 (preS t.name) wx hb (preS_sz hz.1))
  rw [← meanF_look hr] at CM
  obtain ⟨D, hD⟩ : ∃ D : Bool, D = true ↔ AttrsN ts i t.attrs := by
    by_cases h : AttrsN ts i t.attrs
    · exact ⟨true, ⟨fun _ => h, fun _ => rfl⟩⟩
    · exact ⟨false, ⟨fun h' => (by cases h'), fun h' => absurd h' h⟩⟩
  have CA := hid (fun wx (hb : Below w.heap.size w wx) => cAttrNames aa ca t.attrs F C ts i wx D hD (hF.below hb) hr (hR.below hb) hz.2.2.1 hz.2.1)
  have EN := ns_beq (preS t.name)
  rw [← hD] at hB
  obtain ⟨M, hM⟩ : ∃ M, (meanF ts i (preS t.name)).getD ⟨#[]⟩ = M := ⟨_, rfl⟩
  obtain ⟨I, hI⟩ : ∃ I, (meanF ts i (preS t.name)).isSome = I := ⟨_, rfl⟩
  rw [hM, hI] at CM
  rw [hI] at hB
  clear hM hI hD hF hr hR hz
  generalize preS t.name = P at *
  generalize locS t.name = L at *
  generalize t.name = nm at *
  generalize t.kind = K at *
  generalize t.text = T at *
  generalize t.attrs.length = nA at *
  have HBB := hid hB
  clear hB
  go_enter Tryz.func116, Tryz.ntmps116
  go_wp2_with fail
  refine (CP.out _).mono ?_
  rintro e w1 ⟨rfl, hb1⟩
  have HB1 := hid (bb HBA.out hb1)
  have x2 := hid ((hb1.cell (p := ⟨w.heap.size, 2, none⟩) HBOX.out.2.2.2.2).trans HBOX.out.2.2.1)
  have x5 := hid (Nat.lt_of_lt_of_le HBOX.out.2.2.2.2 hb1.size)
  clear hb1 CP HBOX HBA
  go_wp2_with fail
  refine (CM.out _ HB1.out).mono ?_
  rintro e w2 ⟨rfl, hb2⟩
  have HB2 := hid (bb HB1.out hb2)
  have y2 := (hb2.cell (p := ⟨w.heap.size, 2, none⟩) x5.out).trans x2.out
  clear hb2 CM HB1 x2 x5 he
  cases I with
  | false =>
    have HV := hid (show B = false by
      cases B with
      | false => rfl
      | true => exact absurd (HBB.out.1 rfl).1 (by decide))
    go_wp2_with fail
    go_ret
    exact ⟨by rw [HV.out]; rfl, HB2.out⟩
  | true =>
    by_cases hns : P = nsS
    · rw [decide_eq_true hns] at EN
      have HV := hid (show B = false by
        cases B with
        | false => rfl
        | true => exact absurd hns (HBB.out.1 rfl).2.1)
      clear hns
      go_wp2_with fail
      go_ret
      exact ⟨by rw [HV.out]; rfl, HB2.out⟩
    · rw [decide_eq_false hns] at EN
      have HV := hid (show B = D by
        rw [Bool.eq_iff_iff, HBB.out]
        exact ⟨fun h => h.2.2, fun h => ⟨rfl, hns, h⟩⟩)
      clear hns HBB
      go_wp2_with fail
      refine (CA.out _ HB2.out).mono ?_
      rintro e w3 ⟨rfl, hb3⟩
      have HB3 := hid (bb HB2.out hb3)
      clear hb3 CA
      go_wp2_with fail
      go_ret
      exact ⟨by rw [HV.out]; rfl, HB3.out⟩

/-- Without right declarations nothing has a meaning. -/
theorem meanF_not {ts : List Tk} {i : Nat} (h : (outAts ts i).all rightB = false) (p : ByteArray) : meanF ts i p = none := by
  rw [meanF_out]
  exact meanL_not p h

set_option maxRecDepth 4000 in
set_option maxHeartbeats 8000000 in
theorem cNamesOkI (a : Option Addr) (cap : Nat) (ts : List Tk) (w : World) (hR : TkRow w a ts) (hn : ts.length ≤ 1048576) (hz : TksSz 1048576 ts) :
    Calls Tryz.prog 70 #[.slice a ts.length cap] w fun e w' => e = .returned (.bool (namesB ts)) ∧ Below w.heap.size w w' := by
  obtain ⟨V, hV⟩ : ∃ V, namesB ts = V := ⟨_, rfl⟩
  have HF : Hid (¬ NamesP ts → V = false) := fun h => by rw [← hV]; exact namesB_f h
  have HT : Hid (NamesP ts → V = true) := fun h => by rw [← hV]; exact namesB_t h
  rw [hV]
  clear hV
  have C := hid (cTreeOkI a cap ts w hR hn hz)
  by_cases hT : TreeP ts
  case neg =>
    rw [treeB_f hT] at C
    have HV := hid (HF.out (fun h => hT h.1))
    clear hR hz hT HF HT
    generalize ts.length = n at *
    go_enter Tryz.func70, Tryz.ntmps70
    go_wp2_with fail
    refine C.out.mono ?_
    rintro e w1 ⟨rfl, hb1⟩
    have HB1 := hid hb1
    clear hb1 C
    go_wp2_with fail
    go_ret
    exact ⟨by rw [HV.out]; rfl, HB1.out⟩
  rw [treeB_t hT] at C
  have HR := hid hR
  have HZ := hid hz
  have HTP := hid hT
  have hn50 : ts.length ≤ 50 := hT.2.1
  have CL := hid (fun (i : Nat) (h : i < ts.length) wx (hb : Below w.heap.size w wx) => cLookupAt a cap ts i wx (hR.below hb) hT h hn hz)
  obtain ⟨b, o, _, _, ea, -⟩ := hR 0 hT.1
  subst ea
  obtain ⟨n, hnn⟩ : ∃ n, ts.length = n := ⟨_, rfl⟩
  have HN := hid hnn
  rw [hnn] at hn hn50 C CL ⊢
  clear hnn hR hz hT
  go_enter Tryz.func70, Tryz.ntmps70
  go_wp2_with fail
  refine C.out.mono ?_
  rintro e w1 ⟨rfl, hb1⟩
  have HB1 := hid hb1
  clear hb1 C
  go_wp2_with fail
  go_loopw [12] (fun v3 wr => ∃ i : Nat, v3 = .int .i64 (i : Int) ∧ i ≤ n ∧ Hid (∀ j t, j < i → ts[j]? = some t → ElemN ts j t) ∧ Hid (Below w.heap.size w wr)) (fun v3 _ => n - (intOf v3).toNat)
  case atStart => exact ⟨0, rfl, Nat.zero_le _, fun j t h => by omega, HB1.out⟩
  case round =>
    clear HB1
    obtain ⟨i, rfl, hi, HA, HB⟩ := hrel
    by_cases hlt : i < n
    · have his : i < ts.length := by rw [HN.out]; exact hlt
      have hin : (i : Int) < (n : Int) := by omega
      have hti : ts[i]? = some ts[i] := List.getElem?_eq_getElem his
      have HZT := hid (HZ.out _ (List.getElem_mem his))
      have HROW := hid (fun wx (hb : Below w.heap.size w wx) => (HR.out.below hb) i his)
      obtain ⟨t, ht⟩ : ∃ t, ts[i] = t := ⟨_, rfl⟩
      rw [ht] at hti HZT HROW
      have HTI := hid hti
      have HBAD := hid (show ¬ ElemN ts i t → V = false from fun h => HF.out (fun hp => h (hp.2 i t HTI.out)))
      have HNX := hid (show ElemN ts i t → ∀ j t', j < i + 1 → ts[j]? = some t' → ElemN ts j t' from fun h j t' hj he => by
        rcases Nat.lt_or_eq_of_le (Nat.le_of_lt_succ hj) with h' | h'
        · exact HA.out j t' h' he
        · subst h'
          rw [HTI.out] at he
          cases he
          exact h)
      clear hti ht HA his
      have CL1 := hid (CL.out i hlt)
      have CI := hid (fun wx aa nA ca => cIsText t.kind t.name aa nA ca t.text wx HZT.out.1)
      obtain ⟨b', o', aa, ca, e', hb, q0, q1, q2, q3, hA⟩ := HROW.out _ HB.out
      obtain ⟨rfl, rfl⟩ : b = b' ∧ o = o' := by cases e'; exact ⟨rfl, rfl⟩
      have HAT := hid hA
      clear e' hA
      have HBX := hid (HB.out.alloc HB.out.size (.cells #[.int .i64 t.kind, .string t.name, .slice aa t.attrs.length ca, .string t.text] 42))
      have HBL := hid ((Below.refl wr.heap.size wr).alloc (Nat.le_refl _) (.cells #[.int .i64 t.kind, .string t.name, .slice aa t.attrs.length ca, .string t.text] 42))
      have HBOX := hid (box_four wr (.int .i64 t.kind) (.string t.name) (.slice aa t.attrs.length ca) (.string t.text) 42)
      obtain ⟨B, hBB⟩ : ∃ B : Bool, B = true ↔ ((meanF ts i (preS t.name)).isSome = true ∧ ¬ preS t.name = nsS ∧ AttrsN ts i t.attrs) := by
        by_cases h : ((meanF ts i (preS t.name)).isSome = true ∧ ¬ preS t.name = nsS ∧ AttrsN ts i t.attrs)
        · exact ⟨true, ⟨fun _ => h, fun _ => rfl⟩⟩
        · exact ⟨false, ⟨fun h' => (by cases h'), fun h' => absurd h' h⟩⟩
      have CE := hid (fun F C wx (hw : Below wr.heap.size wr wx) hF hr => cElementNames t aa ca F C ts i wx B hBB hF hr (HAT.out.below hw) HZT.out)
      have HB0 := hid (show ¬ t.name.size = 0 → (outAts ts i).all rightB = false → V = false from fun h0 h => HBAD.out (fun he => by
        rcases he with h' | ⟨h', _⟩
        · exact h0 h'
        · rw [meanF_not h] at h'; cases h'))
      have HBF := hid (show ¬ t.name.size = 0 → B = false → V = false from fun h0 h => HBAD.out (fun he => by
        rcases he with h' | h'
        · exact h0 h'
        · rw [hBB.2 h'] at h; cases h))
      have HBT := hid (show B = true → ElemN ts i t from fun h => .inr (hBB.1 h))
      have HTX := hid (show t.name.size = 0 → ElemN ts i t from fun h => .inl h)
      clear hBB HAT
      obtain ⟨A0, hA0⟩ : ∃ A0, (outAts ts i).all rightB = A0 := ⟨_, rfl⟩
      rw [hA0] at CL1 HB0
      have HA0 := hid hA0
      clear hA0
      obtain ⟨nA, hnA⟩ : ∃ nA, t.attrs.length = nA := ⟨_, rfl⟩
      rw [hnA] at q2 HBX HBL HBOX CE
      clear hnA
      obtain ⟨D, hD⟩ : ∃ D : Bool, decide (t.name.size = 0) = D := ⟨_, rfl⟩
      have HD := hid hD
      rw [hD] at CI
      clear hD
      obtain ⟨nm, hnm⟩ : ∃ nm, t.name = nm := ⟨_, rfl⟩
      rw [hnm] at q1 HBX HBL HBOX CE CI HB0 HBF HTX HD
      obtain ⟨K, hK⟩ : ∃ K, t.kind = K := ⟨_, rfl⟩
      rw [hK] at q0 HBX HBL HBOX CE CI
      obtain ⟨X, hX⟩ : ∃ X, t.text = X := ⟨_, rfl⟩
      rw [hX] at q3 HBX HBL HBOX CE CI
      clear hnm hK hX
      go_wp2_with fail
      refine (CI.out _ _ _ _).mono ?_
      rintro e w2 ⟨rfl, hb2⟩
      have HB2 := hid (bb HBX.out hb2)
      have HL2 := hid (bb HBL.out hb2)
      have k0 := hid ((hb2.cell (p := ⟨wr.heap.size, 0, none⟩) HBOX.out.2.2.2.2).trans HBOX.out.1)
      have k1 := hid ((hb2.cell (p := ⟨wr.heap.size, 1, none⟩) HBOX.out.2.2.2.2).trans HBOX.out.2.1)
      have k2 := hid ((hb2.cell (p := ⟨wr.heap.size, 2, none⟩) HBOX.out.2.2.2.2).trans HBOX.out.2.2.1)
      have k3 := hid ((hb2.cell (p := ⟨wr.heap.size, 3, none⟩) HBOX.out.2.2.2.2).trans HBOX.out.2.2.2.1)
      have k4 := hid (Nat.lt_of_lt_of_le HBOX.out.2.2.2.2 hb2.size)
      clear hb2 CI HBOX HBX HBL q0 q1 q2 q3 hb
      cases D with
      | true =>
        have HN2 := hid (HNX.out (HTX.out (of_decide_eq_true HD.out)))
        go_wp2_with fail
        go_roundw
        case rel => exact ⟨i + 1, by go_num, by omega, HN2.out, HB2.out⟩
        case measure => simp [intOf]; omega
      | false =>
        have H0 := hid (of_decide_eq_false HD.out)
        go_wp2_with fail
        refine (CL1.out _ HB2.out).mono ?_
        rintro e w3 ⟨v, rfl, hv, hb3⟩
        have HB3 := hid (bb HB2.out hb3)
        have HL3 := hid (bb HL2.out hb3)
        have HVV := hid hv
        have m0 := (hb3.cell (p := ⟨wr.heap.size, 0, none⟩) k4.out).trans k0.out
        have m1 := (hb3.cell (p := ⟨wr.heap.size, 1, none⟩) k4.out).trans k1.out
        have m2 := (hb3.cell (p := ⟨wr.heap.size, 2, none⟩) k4.out).trans k2.out
        have m3 := (hb3.cell (p := ⟨wr.heap.size, 3, none⟩) k4.out).trans k3.out
        clear hb3 hv CL1 k0 k1 k2 k3 k4 HB2 HL2 HB
        cases A0 with
        | false =>
          have HV := hid (HB0.out H0.out rfl)
          go_wp2_with fail
          go_ret
          exact ⟨by rw [HV.out]; rfl, HB3.out⟩
        | true =>
          obtain ⟨F, C, rfl, hF⟩ := HVV.out rfl
          have CE1 := hid (CE.out F C _ HL3.out hF HA0.out)
          clear hF HVV CE
          go_wp2_with fail
          refine CE1.out.mono ?_
          rintro e w4 ⟨rfl, hb4⟩
          have HB4 := hid (bb HB3.out hb4)
          clear hb4 CE1 m0 m1 m2 m3
          cases B with
          | false =>
            have HV := hid (HBF.out H0.out rfl)
            go_wp2_with fail
            go_ret
            exact ⟨by rw [HV.out]; rfl, HB4.out⟩
          | true =>
            have HN2 := hid (HNX.out (HBT.out rfl))
            go_wp2_with fail
            go_roundw
            case rel => exact ⟨i + 1, by go_num, by omega, HN2.out, HB4.out⟩
            case measure => simp [intOf]; omega
    · have HV := hid (HT.out ⟨HTP.out, fun j t he => HA.out j t (by
        have h1 : j < ts.length := by
          rcases Nat.lt_or_ge j ts.length with h' | h'
          · exact h'
          · rw [List.getElem?_eq_none h'] at he; cases he
        have := HN.out
        omega) he⟩)
      have hie : i = n := by omega
      subst hie
      go_wp2_with fail
      go_ret
      exact ⟨by rw [HV.out]; rfl, HB.out⟩

end Go.Proofs.YteninofjeidljaaGreat

namespace Go.Proofs

open Go.Shelf

def Tryz.lays125_ren : Go.Shelf.Ren := ⟨fun | 125 => 177 | 128 => 194 | 129 => 195 | n => n, fun | 46 => 171 | 3 => 3 | 51 => 216 | 53 => 218 | 4 => 4 | 5 => 5 | 9 => 9 | n => n, fun | n => n⟩

theorem Tryz.lays125 : Go.Proofs.Lays.n125 Tryz.prog Tryz.lays125_ren := {
  mixed := by kernel_rfl
  f125 := Tryz.func177.trans (congrArg some (by kernel_rfl))
  f128 := Tryz.func194.trans (congrArg some (by kernel_rfl))
  f129 := Tryz.func195.trans (congrArg some (by kernel_rfl))
  t3 := Tryz.underlying3
  a3 := Tryz.isAgg3
  z3 := Tryz.sizeOf3
  v3 := Tryz.zeroValue3
  t4 := Tryz.underlying4
  a4 := Tryz.isAgg4
  z4 := Tryz.sizeOf4
  v4 := Tryz.zeroValue4
  t5 := Tryz.underlying5
  a5 := Tryz.isAgg5
  z5 := Tryz.sizeOf5
  v5 := Tryz.zeroValue5
  t9 := Tryz.underlying9
  a9 := Tryz.isAgg9
  z9 := Tryz.sizeOf9
  v9 := Tryz.zeroValue9
  t46 := Tryz.underlying171
  a46 := Tryz.isAgg171
  z46 := Tryz.sizeOf171
  v46 := Tryz.zeroValue171
  t51 := Tryz.underlying216
  a51 := Tryz.isAgg216
  z51 := Tryz.sizeOf216
  v51 := Tryz.zeroValue216
  t53 := Tryz.underlying218
  a53 := Tryz.isAgg218
  z53 := Tryz.sizeOf218
  v53 := Tryz.zeroValue218 }

theorem Tryz.bits_Len (x : Int) (w : World) (h0 : 0 ≤ x) (h1 : x ≤ 18446744073709551615) :
    Calls Tryz.prog 177 #[.int .u64 x] w fun e w' => e = .returned (.int .i64 (Lib.bitLen x.toNat)) ∧ w' = w := Any.bits_Len Tryz.lays125 x w h0 h1

end Go.Proofs
