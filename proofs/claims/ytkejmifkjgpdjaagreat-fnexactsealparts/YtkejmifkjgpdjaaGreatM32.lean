/- Attrs put in order: contracts of slices.SortFunc over a row of attrs (at most twelve), by the program's closure. The library contracts that the proofs lean on, laid at this program: a field a fact of the program, each contract one application. The attrs that declare nothing, in order: contracts of slices.SortFunc and otherAttrs. -/
import Derived.Test.YtkejmifkjgpdjaaGreatM31
import Derived.Test.YtkejmifkjgpdjaaGreatM19
import Derived.Test.YtkejmifkjgpdjaaGreatProg
import Derived.Test.YtkejmifkjgpdjaaGreatM29
import Derived.LoopN
import Derived.Shelf.Strconv.Itoa0
import Derived.Shelf.Small.Bits
import Derived.Shelf.Strings.Builder1
namespace Go.Proofs.YtkejmifkjgpdjaaGreat
open Go.RowKit
set_option linter.unusedVariables false
set_option linter.unusedSimpArgs false

/-- A block of attrs, and room. -/
def Holds2 (w : World) (G c : Nat) (d : List At) : Prop := ∃ cu : Array Value, w.heap[G]? = some (.cells cu 62 (0, 0)) ∧ cu.size = c * 2 ∧ d.length ≤ c ∧ cu.toList.take (d.length * 2) = atC d

theorem Holds2.below {w w' : World} {B G c : Nat} {d : List At} (h : Holds2 w G c d) (hb : Below B w w') (hG : G < B) : Holds2 w' G c d := by
  obtain ⟨cu, h1, h2⟩ := h
  exact ⟨cu, (hb.block G hG).trans h1, h2⟩

theorem Holds2.lt {w : World} {G c : Nat} {d : List At} (h : Holds2 w G c d) : G < w.heap.size := by
  obtain ⟨cu, h1, _⟩ := h
  exact lt_of_heap h1

theorem Holds2.cells {w : World} {G c : Nat} {d : List At} (h : Holds2 w G c d) {j : Nat} (hj : j < d.length) : (w.cell? ⟨G, j * 2, none⟩ = some (.string d[j].name) ∧ w.cell? ⟨G, j * 2 + 1, none⟩ = some (.string d[j].value)) ∧ w.frozen? ⟨G, j * 2, none⟩ = false ∧ w.frozen? ⟨G, j * 2 + 1, none⟩ = false := by
  obtain ⟨cu, h1, h2, h3, h4⟩ := h
  obtain ⟨g1, g2⟩ := atC_get d j hj
  rw [← h4] at g1 g2
  rw [List.getElem?_take_of_lt (by omega)] at g1 g2
  refine ⟨⟨?_, ?_⟩, Lib.frozen_of_heap h1 _, Lib.frozen_of_heap h1 _⟩
  · rw [Lib.cell_of_heap h1, ← Array.getElem?_toList]; exact g1
  · rw [Lib.cell_of_heap h1, ← Array.getElem?_toList]; exact g2

theorem atC_set : ∀ (d : List At) (j : Nat) (x : At), j < d.length → atC (d.set j x) = ((atC d).set (j * 2) (.string x.name)).set (j * 2 + 1) (.string x.value)
  | [], j, x, h => absurd h (Nat.not_lt_zero _)
  | y :: d, 0, x, _ => rfl
  | y :: d, j + 1, x, h => by
    have ih := atC_set d j x (by simpa using h)
    show (Value.string y.name) :: (.string y.value) :: atC (d.set j x) = _
    rw [ih, show (j + 1) * 2 = j * 2 + 1 + 1 by omega]
    rfl

theorem Holds2.set {w : World} {G c : Nat} {d : List At} (h : Holds2 w G c d) {j : Nat} (hj : j < d.length) (x : At) : Holds2 ((w.setCell ⟨G, j * 2, none⟩ (.string x.name)).setCell ⟨G, j * 2 + 1, none⟩ (.string x.value)) G c (d.set j x) := by
  obtain ⟨cu, h1, h2, h3, h4⟩ := h
  refine ⟨_, heap_setCell_same _ _ _ _ _ _ (heap_setCell_same w G _ _ _ _ h1), by simpa using h2, by simpa using h3, ?_⟩
  rw [List.length_set, atC_set d j x hj, ← h4]
  simp only [Array.toList_setIfInBounds, List.take_set]

/-- One step of the walk from behind: two neighbours change places. -/
theorem swap_is {P : List At} {y x : At} {R : List At} : ((P ++ y :: x :: R).set (P.length + 1) y).set P.length x = P ++ x :: y :: R := by
  simp [List.set_append]

/-- What the walk from behind holds: the one in hand, what stands ahead of it, what it went past. -/
def MidA (lt : At → At → Bool) (S R : List At) (x : At) (wr : World) (G c j : Nat) : Prop := ∃ P Q, P.length = j ∧ P ++ Q = S ∧ (∀ q ∈ Q, lt x q = true) ∧ Holds2 wr G c (P ++ x :: (Q ++ R))

theorem MidA.start {lt : At → At → Bool} {S R : List At} {x : At} {wr : World} {G c j : Nat} (hS : S.length = j) (h : Holds2 wr G c (S ++ x :: R)) : MidA lt S R x wr G c j := ⟨S, [], hS, by simp, fun q hq => absurd hq List.not_mem_nil, by simpa using h⟩

theorem MidA.stop {lt : At → At → Bool} (ho : OrdB lt) {S R : List At} {x : At} {wr : World} {G c j : Nat} (h : MidA lt S R x wr G c j) (hS : RisesB lt S) (hs : j = 0 ∨ ∀ y, S[j - 1]? = some y → lt x y = false) : Holds2 wr G c (insG lt S x ++ R) := by
  obtain ⟨P, Q, h1, rfl, h3, h4⟩ := h
  rw [ins_stop ho hS h3 (fun y hy => ?_)]
  · simpa using h4
  · rcases hs with rfl | hs
    · rw [List.length_eq_zero_iff.1 h1] at hy; cases hy
    · refine hs y ?_
      rw [← h1]
      have hne : P ≠ [] := fun e => by rw [e] at hy; cases hy
      have hl : P.length - 1 < P.length := by have := List.length_pos_iff.2 hne; omega
      rw [List.getElem?_append_left hl, ← List.getLast?_eq_getElem?]
      exact hy

theorem MidA.below {lt : At → At → Bool} {S R : List At} {x : At} {w w' : World} {B G c j : Nat} (h : MidA lt S R x w G c j) (hb : Below B w w') (hG : G < B) : MidA lt S R x w' G c j := by
  obtain ⟨P, Q, h1, h2, h3, h4⟩ := h
  exact ⟨P, Q, h1, h2, h3, h4.below hb hG⟩

theorem MidA.drew {lt : At → At → Bool} {S R : List At} {x : At} {w : World} {G c j : Nat} (h : MidA lt S R x w G c j) : MidA lt S R x w.drew G c j := by
  obtain ⟨P, Q, h1, h2, h3, h4⟩ := h
  exact ⟨P, Q, h1, h2, h3, h4⟩

theorem MidA.look {lt : At → At → Bool} {S R : List At} {x : At} {wr : World} {G c jp : Nat} (h : MidA lt S R x wr G c (jp + 1)) : ∃ y, S[jp]? = some y ∧ y ∈ S ∧ ((wr.cell? ⟨G, (jp + 1) * 2, none⟩ = some (.string x.name) ∧ wr.cell? ⟨G, (jp + 1) * 2 + 1, none⟩ = some (.string x.value)) ∧ wr.frozen? ⟨G, (jp + 1) * 2, none⟩ = false ∧ wr.frozen? ⟨G, (jp + 1) * 2 + 1, none⟩ = false)
    ∧ ((wr.cell? ⟨G, jp * 2, none⟩ = some (.string y.name) ∧ wr.cell? ⟨G, jp * 2 + 1, none⟩ = some (.string y.value)) ∧ wr.frozen? ⟨G, jp * 2, none⟩ = false ∧ wr.frozen? ⟨G, jp * 2 + 1, none⟩ = false) ∧ G < wr.heap.size
    ∧ (lt x y = true → ∀ w', w' = (((wr.setCell ⟨G, (jp + 1) * 2, none⟩ (.string y.name)).setCell ⟨G, (jp + 1) * 2 + 1, none⟩ (.string y.value)).setCell ⟨G, jp * 2, none⟩ (.string x.name)).setCell ⟨G, jp * 2 + 1, none⟩ (.string x.value) → MidA lt S R x w' G c jp) := by
  obtain ⟨P, Q, h1, rfl, h3, h4⟩ := h
  have hl : jp < P.length := by omega
  have hn : jp + 1 < (P ++ x :: (Q ++ R)).length := by simp only [List.length_append, List.length_cons]; omega
  have k1 := h4.cells hn
  have k2 := h4.cells (j := jp) (by omega)
  have e1 : (P ++ x :: (Q ++ R))[jp + 1] = x := by
    rw [List.getElem_append_right (by omega)]
    simp [h1]
  have e2 : (P ++ x :: (Q ++ R))[jp] = P[jp] := List.getElem_append_left hl
  rw [e1] at k1
  rw [e2] at k2
  refine ⟨P[jp], by rw [List.getElem?_append_left hl, List.getElem?_eq_getElem hl], List.mem_append_left _ (List.getElem_mem hl), k1, k2, h4.lt, fun hlt w' hw => ?_⟩
  have hP : P = P.take jp ++ [P[jp]] := by
    have := List.take_append_drop jp P
    rw [List.drop_eq_getElem_cons hl, List.drop_of_length_le (by omega)] at this
    exact this.symm
  have hlen : (P.take jp).length = jp := by rw [List.length_take]; omega
  refine ⟨P.take jp, P[jp] :: Q, hlen, ?_, fun q hq => ?_, ?_⟩
  · have : P.take jp ++ P[jp] :: Q = (P.take jp ++ [P[jp]]) ++ Q := by rw [List.append_assoc]; rfl
    rw [this, ← hP]
  · rcases List.mem_cons.1 hq with rfl | hq
    · exact hlt
    · exact h3 q hq
  · have h5 := (h4.set hn P[jp]).set (j := jp) (by rw [List.length_set]; omega) x
    rw [← hw] at h5
    have h6 : ((P ++ x :: (Q ++ R)).set (jp + 1) P[jp]).set jp x = P.take jp ++ x :: (P[jp] :: Q ++ R) := by
      have := swap_is (P := P.take jp) (y := P[jp]) (x := x) (R := Q ++ R)
      rw [hlen] at this
      have e : P ++ x :: (Q ++ R) = P.take jp ++ P[jp] :: x :: (Q ++ R) := by
        have : P.take jp ++ P[jp] :: x :: (Q ++ R) = (P.take jp ++ [P[jp]]) ++ x :: (Q ++ R) := by rw [List.append_assoc]; rfl
        rw [this, ← hP]
      rw [e, this]
      rfl
    rw [h6] at h5
    exact h5

set_option maxRecDepth 8000 in
set_option maxHeartbeats 4000000 in
theorem cInsA (G c cap : Nat) (l : List At) (F : FuncId) (C : Array Value) (ls : List At) (b : Nat) (w0 w : World) (ho : OrdB (fun x y => decide (cmpA ls x y < 0))) (hA : Asks F C w0 ls) (hb : b < w0.heap.size) (hc : w0.cell? ⟨b, 0, none⟩ = some (.func (.func F) #[] C))
    (hB : Below w0.heap.size w0 w) (hG : w0.heap.size ≤ G) (hH : Holds2 w G c l) (hz : AtSz 1048576 l) (hn : l.length ≤ 12) :
    Calls Tryz.prog 151 #[.slice (some ⟨G, 0, none⟩) l.length cap, .int .i64 0, .int .i64 l.length, .func (.func 128) #[] #[.pointer (some ⟨b, 0, none⟩)]] w fun e w' =>
      e = .returned (.tuple #[]) ∧ Holds2 w' G c (sortG (fun x y => decide (cmpA ls x y < 0)) l) ∧ Below w0.heap.size w0 w' := by
  obtain ⟨lt, hlt⟩ : ∃ lt : At → At → Bool, lt = fun x y => decide (cmpA ls x y < 0) := ⟨_, rfl⟩
  have HLT := hid (show ∀ x y, lt x y = decide (cmpA ls x y < 0) from fun x y => by rw [hlt])
  rw [← hlt] at ho ⊢
  clear hlt
  have HO := hid ho
  have CC := hid (fun (x y : At) (wx : World) (hbx : Below w0.heap.size w0 wx) (hx : x.name.size ≤ 1048576) (hy : y.name.size ≤ 1048576) => cCmpA x y F C ls b wx (hA.below hbx) (Nat.lt_of_lt_of_le hb hbx.size) ((hbx.cell (p := ⟨b, 0, none⟩) hb).trans hc) hx hy)
  have HZ := hid hz
  have HH := hid hH
  have HBB := hid hB
  have he : ∀ args (wx : World), (callFunc 128 args).run Tryz.prog wx = .ok (.enter 128 args) wx := fun args wx => enters Tryz.func128 (by kernel_rfl) rfl _ wx
  have HG := hid hG
  clear ho hA hb hc hB hG hH hz
  obtain ⟨n, hnn⟩ : ∃ n, l.length = n := ⟨_, rfl⟩
  have HN := hid hnn
  rw [hnn] at hn ⊢
  clear hnn
  go_enter Tryz.func151, Tryz.ntmps151
  go_wp2_with fail
  go_loopw [8] (fun vi wr => ∃ i : Nat, vi = .int .i64 (i : Int) ∧ 1 ≤ i ∧ i ≤ 13 ∧ (i = 1 ∨ i ≤ n) ∧ Hid (Holds2 wr G c (sortG lt (l.take i) ++ l.drop i)) ∧ Hid (Below w0.heap.size w0 wr)) (fun k _ => 14 - (intOf k).toNat)
  case atStart => exact ⟨1, rfl, by omega, by omega, .inl rfl, by
    show Holds2 _ _ _ _
    have e : sortG lt (l.take 1) ++ l.drop 1 = l := by
      cases l with
      | nil => rfl
      | cons x l => rfl
    rw [e]; exact HH.out, HBB.out⟩
  case round =>
    obtain ⟨i, rfl, hi1, hi2, hi3, HD, HB⟩ := hrel
    by_cases hlt : i < n
    · have his : i < l.length := by rw [HN.out]; exact hlt
      have hin : (i : Int) < (n : Int) := by omega
      obtain ⟨x, hx⟩ : ∃ x, l[i] = x := ⟨_, rfl⟩
      obtain ⟨S, hS⟩ : ∃ S, sortG lt (l.take i) = S := ⟨_, rfl⟩
      obtain ⟨s1, s2, s3⟩ := sort_all HO.out (l.take i)
      have HNX := hid (show sortG lt (l.take (i + 1)) = insG lt S x by rw [sort_next lt his, hx, hS])
      rw [hS] at s1 s2 s3 HD
      have HSR := hid s1
      have HSZ := hid (show ∀ y ∈ S, y.name.size ≤ 1048576 from fun y hy => (HZ.out y (List.mem_of_mem_take ((s3 y).1 hy))).1)
      have HXZ := hid (show x.name.size ≤ 1048576 by rw [← hx]; exact (HZ.out _ (List.getElem_mem his)).1)
      have HMD := hid (MidA.start (lt := lt) (S := S) (R := l.drop (i + 1)) (x := x) (wr := wr) (G := G) (c := c) (j := i) (by rw [s2, List.length_take]; omega) (by have := HD.out; rw [List.drop_eq_getElem_cons his, hx] at this; exact this))
      clear hx hS s1 s2 s3 HD
      obtain ⟨R, hR⟩ : ∃ R, l.drop (i + 1) = R := ⟨_, rfl⟩
      rw [hR] at HMD
      have HRR := hid hR
      clear hR
      go_wp2_with fail
      go_loopw [9] (fun vj wr2 => ∃ j : Nat, vj = .int .i64 (j : Int) ∧ j ≤ i ∧ Hid (MidA lt S R x wr2 G c j) ∧ Hid (Below w0.heap.size w0 wr2)) (fun k _ => (intOf k).toNat)
      case atStart => exact ⟨i, rfl, Nat.le_refl _, HMD.out, HB.out⟩
      case round =>
        obtain ⟨j, rfl, hj, HM, HB2⟩ := hrel
        have HNB := hid (bw_any wr)
        rcases Nat.eq_zero_or_pos j with hj0 | hj0
        · have HE := hid (HM.out.stop HO.out HSR.out (.inl hj0))
          subst hj0
          have hd : decide (((0 : Nat) : Int) > 0) = false := rfl
          go_wp2_with fail
          haveI := HNB.out
          refine wp_region_below (by kernel_rfl) (by kernel_rfl) (Below.refl wr.heap.size wr) ?_
          repeat (go_big_quiet_step (fail))
          refine wpQuiet_nil ?_
          intro _ hw'
          obtain ⟨⟨wq, hwq⟩, hw''⟩ := hw'
          subst hw''
          have HBQ := hid (bb HB2.out hwq)
          have HEQ := hid (HE.out.below hwq HE.out.lt)
          clear hwq HE this
          go_wp2_with fail
          go_roundw
          case rel => exact ⟨i + 1, by go_num, by omega, by omega, by omega, by rw [HNX.out, HRR.out]; exact HEQ.out, HBQ.out⟩
          case measure => simp [intOf]; omega
        · obtain ⟨jp, rfl⟩ : ∃ jp, j = jp + 1 := ⟨j - 1, by omega⟩
          obtain ⟨y, hy, hyS, ⟨⟨x1, x2⟩, x3, x4⟩, ⟨⟨y1, y2⟩, y3, y4⟩, hGl, hsw⟩ := HM.out.look
          have CA := hid (fun p : BW wr => CC.out x y p.w (bb HB2.out p.h) HXZ.out (HSZ.out y hyS))
          have HLX := hid (HLT.out x y)
          have HSW := hid hsw
          have HSTOP := hid (show lt x y = false → Holds2 wr G c (insG lt S x ++ R) from fun h => HM.out.stop HO.out HSR.out (.inr (fun z hz => by
            rw [Nat.add_sub_cancel, hy] at hz
            cases hz
            exact h)))
          have HGL := hid hGl
          obtain ⟨k1, k2⟩ := pair_bw hGl x1 x2
          obtain ⟨k3, k4⟩ := pair_bw hGl y1 y2
          have HX := hid (And.intro (And.intro x1 x2) (And.intro x3 x4))
          have HY := hid (And.intro (And.intro y1 y2) (And.intro y3 y4))
          have HMM := hid HM.out
          have HYS := hid hy
          clear hy hyS hGl hsw HM HSZ HXZ x1 x2 x3 x4 y1 y2 y3 y4
          generalize x.name = xn at *
          generalize x.value = xv at *
          generalize y.name = yn at *
          generalize y.value = yv at *
          generalize cmpA ls x y = V at *
          have hd : decide (((jp + 1 : Nat) : Int) > 0) = true := decide_eq_true (by omega)
          have e1 : ((jp + 1 : Nat) : Int) - 1 = (jp : Int) := by omega
          have j1 : (jp : Int) + 1 < (n : Int) := by omega
          have j2 : (jp : Int) < (n : Int) := by omega
          have hdr : decide (V < 0) = lt x y := HLX.out.symm
          cases hq : lt x y with
          | false =>
            have HE := hid (HSTOP.out hq)
            rw [hq] at hdr
            go_wp2_with fail
            haveI := HNB.out
            refine wp_region_below (by kernel_rfl) (by kernel_rfl) (Below.refl wr.heap.size wr) ?_
            repeat (go_big_quiet_step ((go_at_call 128; exact calls_bw _ (CA.out _))))
            refine wpQuiet_nil ?_
            intro _ hw'
            obtain ⟨⟨wq, hwq⟩, hw''⟩ := hw'
            subst hw''
            have HBQ := hid (bb HB2.out hwq)
            have HEQ := hid (HE.out.below hwq HE.out.lt)
            clear hwq HE this k1 k2 k3 k4
            go_wp2_with fail
            go_roundw
            case rel => exact ⟨i + 1, by go_num, by omega, by omega, by omega, by rw [HNX.out, HRR.out]; exact HEQ.out, HBQ.out⟩
            case measure => simp [intOf]; omega
          | true =>
            rw [hq] at hdr
            go_wp2_with fail
            haveI := HNB.out
            refine wp_region_below (by kernel_rfl) (by kernel_rfl) (Below.refl wr.heap.size wr) ?_
            repeat (go_big_quiet_step ((go_at_call 128; exact calls_bw _ (CA.out _))))
            refine wpQuiet_nil ?_
            intro _ hw'
            obtain ⟨⟨wq, hwq⟩, hw''⟩ := hw'
            subst hw''
            have HBQ := hid (bb HB2.out hwq)
            have HMQ := hid (HMM.out.below hwq HGL.out)
            obtain ⟨z, hz, hzS, ⟨⟨x1, x2⟩, x3, x4⟩, ⟨⟨y1, y2⟩, y3, y4⟩, hGl, hsw⟩ := HMQ.out.look
            clear hwq this k1 k2 k3 k4
            have HZQ := hid (hsw (by rw [HYS.out] at hz; cases hz; exact hq))
            clear hz hzS hsw hGl
            go_wp2_with fail
            go_region
            all_goals go_wp2_with fail
            go_roundw
            case rel =>
              refine ⟨jp, by go_num, by omega, (HZQ.out _ rfl).drew, ?_⟩
              show Below _ _ _
              refine Below.drew ?_
              iterate 4 refine Below.setCell ?_ HG.out _
              exact HBQ.out
            case measure => simp [intOf]
    · have hin : ¬ (i : Int) < (n : Int) := by omega
      have HE := hid (show Holds2 wr G c (sortG lt l) by
        have h := HD.out
        rw [List.take_of_length_le (by rw [HN.out]; omega), List.drop_of_length_le (by rw [HN.out]; omega), List.append_nil] at h
        exact h)
      go_wp2_with fail
      go_end0
      exact ⟨rfl, HE.out, HB.out⟩

set_option maxRecDepth 8000 in
set_option maxHeartbeats 4000000 in
theorem cPdqA (G c cap : Nat) (l : List At) (lim : Int) (F : FuncId) (C : Array Value) (ls : List At) (b : Nat) (w0 w : World) (ho : OrdB (fun x y => decide (cmpA ls x y < 0))) (hA : Asks F C w0 ls) (hb : b < w0.heap.size) (hc : w0.cell? ⟨b, 0, none⟩ = some (.func (.func F) #[] C))
    (hB : Below w0.heap.size w0 w) (hG : w0.heap.size ≤ G) (hH : Holds2 w G c l) (hz : AtSz 1048576 l) (hn : l.length ≤ 12) :
    Calls Tryz.prog 144 #[.slice (some ⟨G, 0, none⟩) l.length cap, .int .i64 0, .int .i64 l.length, .int .i64 lim, .func (.func 128) #[] #[.pointer (some ⟨b, 0, none⟩)]] w fun e w' =>
      e = .returned (.tuple #[]) ∧ Holds2 w' G c (sortG (fun x y => decide (cmpA ls x y < 0)) l) ∧ Below w0.heap.size w0 w' := by
  have CI := hid (cInsA G c cap l F C ls b w0 w ho hA hb hc hB hG hH hz hn)
  generalize sortG (fun x y => decide (cmpA ls x y < 0)) l = S at *
  clear ho hA hb hc hB hG hH hz
  generalize l.length = n at *
  have h12 : (n : Int) ≤ 12 := by omega
  go_enter Tryz.func144, Tryz.ntmps144
  go_wp2_with fail
  refine wp_loop_rounds 1 ?_
  rw [rounds_succ]
  go_wp2_with fail
  refine CI.out.mono ?_
  rintro e w1 ⟨rfl, h1, h2⟩
  have H1 := hid (And.intro h1 h2)
  clear h1 h2
  go_wp2_with fail
  (try simp only [Exit.inBlock, Exit.then])
  refine bodyPost_ret (results_none rfl _ _ _) rfl ?_
  exact ⟨rfl, H1.out.1, H1.out.2⟩

end Go.Proofs.YtkejmifkjgpdjaaGreat

namespace Go.Proofs
open Go.Shelf
def Tryz.lays125_ren : Go.Shelf.Ren := ⟨fun | 125 => 145 | 128 => 159 | 129 => 160 | n => n, fun | 46 => 170 | 3 => 3 | 51 => 185 | 53 => 187 | 4 => 4 | 5 => 5 | 9 => 9 | n => n, fun | n => n⟩
theorem Tryz.lays125 : Go.Proofs.Lays.n125 Tryz.prog Tryz.lays125_ren := {
  mixed := by kernel_rfl
  f125 := Tryz.func145.trans (congrArg some (by kernel_rfl))
  f128 := Tryz.func159.trans (congrArg some (by kernel_rfl))
  f129 := Tryz.func160.trans (congrArg some (by kernel_rfl))
  t3 := Tryz.underlying3
  a3 := Tryz.isAgg3
  z3 := Tryz.sizeOf3
  v3 := Tryz.zeroValue3
  t4 := Tryz.underlying4
  a4 := Tryz.isAgg4
  z4 := Tryz.sizeOf4
  v4 := Tryz.zeroValue4
  t5 := Tryz.underlying5
  a5 := Tryz.isAgg5
  z5 := Tryz.sizeOf5
  v5 := Tryz.zeroValue5
  t9 := Tryz.underlying9
  a9 := Tryz.isAgg9
  z9 := Tryz.sizeOf9
  v9 := Tryz.zeroValue9
  t46 := Tryz.underlying170
  a46 := Tryz.isAgg170
  z46 := Tryz.sizeOf170
  v46 := Tryz.zeroValue170
  t51 := Tryz.underlying185
  a51 := Tryz.isAgg185
  z51 := Tryz.sizeOf185
  v51 := Tryz.zeroValue185
  t53 := Tryz.underlying187
  a53 := Tryz.isAgg187
  z53 := Tryz.sizeOf187
  v53 := Tryz.zeroValue187 }
theorem Tryz.bits_Len (x : Int) (w : World) (h0 : 0 ≤ x) (h1 : x ≤ 18446744073709551615) :
    Calls Tryz.prog 145 #[.int .u64 x] w fun e w' => e = .returned (.int .i64 (Lib.bitLen x.toNat)) ∧ w' = w := Any.bits_Len Tryz.lays125 x w h0 h1
end Go.Proofs

namespace Go.Proofs.YtkejmifkjgpdjaaGreat
open Go.RowKit
set_option linter.unusedVariables false
set_option linter.unusedSimpArgs false

set_option maxRecDepth 8000 in
set_option maxHeartbeats 4000000 in
theorem cSortA (G c cap : Nat) (l : List At) (F : FuncId) (C : Array Value) (ls : List At) (b : Nat) (w0 w : World) (ho : OrdB (fun x y => decide (cmpA ls x y < 0))) (hA : Asks F C w0 ls) (hb : b < w0.heap.size) (hc : w0.cell? ⟨b, 0, none⟩ = some (.func (.func F) #[] C))
    (hB : Below w0.heap.size w0 w) (hG : w0.heap.size ≤ G) (hH : Holds2 w G c l) (hz : AtSz 1048576 l) (hn : l.length ≤ 12) :
    Calls Tryz.prog 127 #[.slice (some ⟨G, 0, none⟩) l.length cap, .func (.func 128) #[] #[.pointer (some ⟨b, 0, none⟩)]] w fun e w' =>
      e = .returned (.tuple #[]) ∧ Holds2 w' G c (sortG (fun x y => decide (cmpA ls x y < 0)) l) ∧ Below w0.heap.size w0 w' := by
  have CI := hid (fun lim => cPdqA G c cap l lim F C ls b w0 w ho hA hb hc hB hG hH hz hn)
  have CL := hid (Tryz.bits_Len (l.length : Int) w (by omega) (by omega))
  generalize sortG (fun x y => decide (cmpA ls x y < 0)) l = S at *
  clear ho hA hb hc hB hG hH hz
  generalize l.length = n at *
  have hw : IntKind.u64.wrap (n : Int) = (n : Int) := by
    have : (n : Int) % 18446744073709551616 = n := by omega
    simpa [IntKind.wrap, IntKind.bits, IntKind.signed] using this
  go_enter Tryz.func127, Tryz.ntmps127
  go_wp2_with fail
  refine CL.out.mono ?_
  rintro e w1 ⟨rfl, hw1⟩
  subst hw1
  go_wp2_with fail
  refine (CI.out _).mono ?_
  rintro e w2 ⟨rfl, h1, h2⟩
  have H1 := hid (And.intro h1 h2)
  clear h1 h2
  go_wp2_with fail
  go_end0
  exact ⟨rfl, H1.out.1, H1.out.2⟩

set_option maxHeartbeats 2000000 in
theorem cInsA0 (f : Value) (w : World) :
    Calls Tryz.prog 151 #[.slice none 0 0, .int .i64 0, .int .i64 0, f] w fun e w' => e = .returned (.tuple #[]) ∧ w' = w := by
  go_enter Tryz.func151, Tryz.ntmps151
  go_wp2_with fail
  refine wp_loop_rounds 1 ?_
  rw [rounds_succ]
  go_wp2_with fail
  go_end0
  exact ⟨rfl, rfl⟩

set_option maxRecDepth 8000 in
set_option maxHeartbeats 4000000 in
theorem cPdqA0 (lim : Int) (f : Value) (w : World) :
    Calls Tryz.prog 144 #[.slice none 0 0, .int .i64 0, .int .i64 0, .int .i64 lim, f] w fun e w' => e = .returned (.tuple #[]) ∧ w' = w := by
  have CI := hid (cInsA0 f w)
  go_enter Tryz.func144, Tryz.ntmps144
  go_wp2_with fail
  refine wp_loop_rounds 1 ?_
  rw [rounds_succ]
  go_wp2_with fail
  refine CI.out.mono ?_
  rintro e w1 ⟨rfl, hw⟩
  subst hw
  go_wp2_with fail
  (try simp only [Exit.inBlock, Exit.then])
  refine bodyPost_ret (results_none rfl _ _ _) rfl ?_
  exact ⟨rfl, rfl⟩

set_option maxHeartbeats 2000000 in
theorem cSortA0 (f : Value) (w : World) :
    Calls Tryz.prog 127 #[.slice none 0 0, f] w fun e w' => e = .returned (.tuple #[]) ∧ w' = w := by
  have CI := hid (fun lim => cPdqA0 lim f w)
  have CL := hid (Tryz.bits_Len 0 w (by omega) (by omega))
  go_enter Tryz.func127, Tryz.ntmps127
  go_wp2_with fail
  refine CL.out.mono ?_
  rintro e w1 ⟨rfl, hw1⟩
  subst hw1
  go_wp2_with fail
  refine (CI.out _).mono ?_
  rintro e w2 ⟨rfl, hw2⟩
  subst hw2
  go_wp2_with fail
  go_end0
  exact ⟨rfl, rfl⟩

theorem ats_more {w1 : World} {B : Nat} {v : Value} {ps : List At} {q : At} (h : w1.ownsRow B 62 2 v (ps.length + 1) (atC ps ++ [.string q.name, .string q.value])) : ∃ a c, v = .slice a (ps ++ [q]).length c ∧ w1.ownsRow B 62 2 (.slice a (ps ++ [q]).length c) (ps ++ [q]).length (atC (ps ++ [q])) := by
  have e : atC ps ++ [.string q.name, .string q.value] = atC (ps ++ [q]) := by simp [atC]
  have e2 : (ps ++ [q]).length = ps.length + 1 := by simp
  rw [e] at h
  rw [e2]
  rcases h.2 with ⟨_, h0⟩ | ⟨g, c, cu, hv, hr⟩
  · omega
  · exact ⟨_, c, hv, by rw [← hv]; exact h⟩

/-- A row of attrs, in a block of its own. -/
def NewAts (w : World) (B : Nat) (a : Option Addr) (c : Nat) (l : List At) : Prop := (a = none ∧ c = 0 ∧ l = []) ∨ ∃ g, a = some ⟨g, 0, none⟩ ∧ B ≤ g ∧ Holds2 w g c l

theorem NewAts.of {w : World} {B : Nat} {a : Option Addr} {c : Nat} {l : List At} (h : w.ownsRow B 62 2 (.slice a l.length c) l.length (atC l)) : NewAts w B a c l := by
  obtain ⟨h0, h | ⟨g, cap, cu, e, h1, h2, h3, h4, h5, h6⟩⟩ := h
  · obtain ⟨e, e2⟩ := h
    injection e with e3 e4 e5
    exact .inl ⟨e3, e5, List.length_eq_zero_iff.1 e2⟩
  · injection e with e3 e4 e5
    subst e5
    exact .inr ⟨g, e3, h1, cu, h2, h5, h3, h6⟩

theorem NewAts.row {w : World} {B : Nat} {a : Option Addr} {c : Nat} {l : List At} (h : NewAts w B a c l) : AtRow w a l := by
  rcases h with ⟨rfl, rfl, rfl⟩ | ⟨g, rfl, h1, h2⟩
  · intro j hj; exact absurd hj (Nat.not_lt_zero _)
  · intro j hj
    obtain ⟨⟨k1, k2⟩, _⟩ := h2.cells hj
    exact ⟨g, 0, rfl, h2.lt, by rw [Nat.zero_add]; exact k1, by rw [Nat.zero_add]; exact k2⟩

theorem NewAts.below {w w' : World} {B : Nat} {a : Option Addr} {c : Nat} {l : List At} (h : NewAts w B a c l) (hb : Below w.heap.size w w') : NewAts w' B a c l := by
  rcases h with ⟨rfl, rfl, rfl⟩ | ⟨g, rfl, h1, h2⟩
  · exact .inl ⟨rfl, rfl, rfl⟩
  · exact .inr ⟨g, rfl, h1, h2.below hb h2.lt⟩

noncomputable def nodeclB (x : At) : Bool := !(declF x).isSome

noncomputable def ltA (ls : List At) (x y : At) : Bool := decide (cmpA ls x y < 0)

theorem filt_next {l : List At} {i : Nat} (h : i < l.length) : (l.take (i + 1)).filter nodeclB = (l.take i).filter nodeclB ++ (if nodeclB l[i] then [l[i]] else []) := by
  rw [take_snocN h, List.filter_append]
  congr 1
  cases hq : nodeclB l[i] <;> simp [hq]

set_option maxRecDepth 8000 in
set_option maxHeartbeats 4000000 in
theorem cOtherAttrs (aa : Option Addr) (ca : Nat) (l : List At) (F : FuncId) (C : Array Value) (ls : List At) (w : World) (ho : OrdB (ltA ls)) (hA : Asks F C w ls) (hR : AtRow w aa l) (hz : AtSz 1048576 l) (hn : l.length ≤ 6) :
    Calls Tryz.prog 97 #[.slice aa l.length ca, .func (.func F) #[] C] w fun e w' => ∃ a c, e = .returned (.slice a (sortG (ltA ls) (l.filter nodeclB)).length c) ∧ NewAts w' w.heap.size a c (sortG (ltA ls) (l.filter nodeclB)) ∧ Below w.heap.size w w' := by
  obtain ⟨S, hS⟩ : ∃ S, sortG (ltA ls) (l.filter nodeclB) = S := ⟨_, rfl⟩
  rw [hS]
  have HSS := hid hS
  clear hS
  obtain ⟨i0, hi, hz0, hz1, hz2⟩ := info_parts infoAtW
  have HI := hid (And.intro hi (And.intro hz0 (And.intro hz1 hz2)))
  clear hi hz0 hz1 hz2
  have HB0 := hid ((Below.refl w.heap.size w).alloc (Nat.le_refl _) (.cells #[.func (.func F) #[] C] 83))
  have M0 := hid (heap_alloc_new w (.cells #[.func (.func F) #[] C] 83))
  have hs0 : (w.alloc (.cells #[.func (.func F) #[] C] 83)).heap.size = w.heap.size + 1 := by simp
  obtain ⟨w0, hw0⟩ : ∃ w0, w.alloc (.cells #[.func (.func F) #[] C] 83) = w0 := ⟨_, rfl⟩
  rw [hw0] at HB0 M0 hs0
  have HA := hid (hA.below HB0.out)
  have HC := hid (show w0.cell? ⟨w.heap.size, 0, none⟩ = some (.func (.func F) #[] C) by rw [Lib.cell_of_heap M0.out]; rfl)
  have HS0 := hid hs0
  have HO := hid ho
  have HR := hid (hR.below HB0.out)
  have HZ := hid hz
  have HW0 := hid hw0
  have hmf : ∀ (fn : Fn) (first cap : Array Value) (w : World), (Instr.makeFunc fn first cap).run Tryz.prog w = .ok (.func fn first cap) w := fun _ _ _ _ => rfl
  clear ho hA hR hz hs0 hw0
  obtain ⟨n, hnn⟩ : ∃ n, l.length = n := ⟨_, rfl⟩
  have HN := hid hnn
  rw [hnn] at hn ⊢
  clear hnn
  go_enter Tryz.func97, Tryz.ntmps97
  go_wp2_with fail
  simp only [HW0.out]
  go_loopw [5, 12] (fun v5 v12 wr => ∃ (j : Nat) (a8 : Option Addr) (c8 : Nat) (ps : List At), v12 = .int .i64 (j : Int) ∧ j ≤ n ∧ v5 = .slice a8 ps.length c8 ∧ ps.length ≤ j ∧ Hid (ps = (l.take j).filter nodeclB) ∧ Hid (wr.ownsRow w0.heap.size 62 2 (.slice a8 ps.length c8) ps.length (atC ps)) ∧ Hid (Below w0.heap.size w0 wr)) (fun _ v12 _ => n - (intOf v12).toNat)
  case atStart => exact ⟨0, none, 0, [], rfl, Nat.zero_le _, rfl, Nat.zero_le _, rfl, World.ownsRow_nil _ _ _ _, Below.refl _ _⟩
  case round =>
    obtain ⟨j, a8, c8, ps, rfl, hj, rfl, hps, HK, HOW, HB⟩ := hrel
    by_cases hjl : j < n
    · have hjt : j < l.length := by rw [HN.out]; exact hjl
      have hjn : (j : Int) < (n : Int) := by omega
      obtain ⟨b, o, rfl, hb, c1, c2⟩ := (HR.out.below HB.out) j hjt
      have HS := hid (HZ.out _ (List.getElem_mem hjt))
      have HTS := hid (filt_next hjt)
      obtain ⟨y, hy⟩ : ∃ y, l[j] = y := ⟨_, rfl⟩
      rw [hy] at c1 c2 HS HTS
      clear hy
      rw [← HK.out] at HTS
      have CD := hid (fun wx => cDeclaredBy y wx HS.out.1)
      have HND := hid (show nodeclB y = !(declF y).isSome from rfl)
      obtain ⟨D, hD⟩ : ∃ D, (declF y).isSome = D := ⟨_, rfl⟩
      rw [hD] at CD HND
      clear hD
      generalize (declF y).getD ⟨#[]⟩ = DP at *
      have HBX := hid (HB.out.alloc HB.out.size (.cells #[.string y.name, .string y.value] 62))
      have HO1 := hid (HOW.out.alloc (.cells #[.string y.name, .string y.value] 62))
      have MX := hid (heap_alloc_new wr (.cells #[.string y.name, .string y.value] 62))
      obtain ⟨nk, hnk⟩ : ∃ nk, ps.length = nk := ⟨_, rfl⟩
      have HNK := hid hnk
      rw [hnk] at hps HO1 ⊢
      clear hnk HOW
      go_wp2_with fail
      refine (CD.out _).mono ?_
      rintro e w1 ⟨rfl, hb1⟩
      have HB1 := hid (bb HBX.out hb1)
      have HO2 := hid (ownsRow_below HO1.out hb1)
      obtain ⟨⟨d1, d2⟩, _⟩ := box2e (blk_below MX.out hb1)
      clear hb1 HBX CD c1 c2 HO1 hb HB MX
      cases D with
      | true =>
        have HE := hid (show ps = (l.take (j + 1)).filter nodeclB by rw [HTS.out, HND.out]; simp)
        go_wp2_with fail
        go_roundw
        case rel => exact ⟨j + 1, a8, c8, ps, by go_num, by omega, by rw [HNK.out], by rw [HNK.out]; omega, HE.out, by rw [HNK.out]; exact HO2.out, HB1.out⟩
        case measure => simp [intOf]; omega
      | false =>
        have HE := hid (show ps ++ [y] = (l.take (j + 1)).filter nodeclB by rw [HTS.out, HND.out]; simp)
        have hsz := HB1.out.size
        go_wp2_with (at_builtin; refine wpList_append_own _ rfl _ _ 42 rfl w0.heap.size 62 i0 (.agg #[.string ⟨#[]⟩, .string ⟨#[]⟩]) 2 32 Tryz.underlying42 HI.out.1 HI.out.2.1 HI.out.2.2.1 HI.out.2.2.2 rfl (by decide) _ _ _ rfl (HO2.out.alloc _) ⟨w1.heap.size, 0, none⟩ 1 1 [.string y.name, .string y.value] rfl rfl (two_cell _ _ _ _) (two_str _ _) (by unfold maxLen; omega) (by omega) (by simp; omega) ?_)
        intro v' w7 hown' hgrow _
        have HB7 := hid ((HB1.out.alloc hsz _).grown hgrow (by simp; omega) (fun k hk => (HO2.out.lt k hk).1))
        rw [← HNK.out] at hown'
        obtain ⟨a9, c9, rfl, ho9⟩ := ats_more (q := y) hown'
        have HO9 := hid ho9
        clear hown' hgrow ho9
        have HL9 := hid (show (ps ++ [y]).length ≤ j + 1 by rw [List.length_append, HNK.out]; show _ + 1 ≤ _; omega)
        generalize ps ++ [y] = ps9 at *
        clear d1 d2
        go_wp2_with fail
        go_roundw
        case rel => exact ⟨j + 1, a9, c9, ps9, by go_num, by omega, rfl, HL9.out, HE.out, HO9.out, HB7.out⟩
        case measure => simp [intOf]; omega
    · have hjn : j = n := by omega
      subst hjn
      have HE := hid (show ps = l.filter nodeclB by
        have h := HK.out
        rw [List.take_of_length_le (by rw [HN.out]; omega)] at h
        exact h)
      have HBw := hid (show Below w.heap.size w wr from HB0.out.trans (HB.out.mono HB0.out.size))
      have HNA := hid (NewAts.of HOW.out)
      have HPZ := hid (show AtSz 1048576 ps from fun x hx => HZ.out x (by rw [HE.out] at hx; exact (List.mem_filter.1 hx).1))
      rcases HNA.out with ⟨h1, h2, h3⟩ | ⟨G, h1, h2, h3⟩
      · have HEM := hid (show S = [] by rw [← HSS.out, ← HE.out, h3]; rfl)
        subst h1 h2 h3
        have CS := hid (cSortA0 (.func (.func 128) #[] #[.pointer (some ⟨w.heap.size, 0, none⟩)]) wr)
        clear HOW HNA HPZ HK HE
        go_wp2_with fail
        refine CS.out.mono ?_
        rintro e w2 ⟨rfl, hw2⟩
        subst hw2
        go_wp2_with fail
        go_ret
        exact ⟨none, 0, by rw [HEM.out]; rfl, .inl ⟨rfl, rfl, HEM.out⟩, HBw.out⟩
      · subst h1
        have CS := hid (cSortA G c8 c8 ps F C ls w.heap.size w0 wr HO.out HA.out (by have := HS0.out; omega) HC.out HB.out h2 h3 HPZ.out (by omega))
        have HGB := hid (show w.heap.size ≤ G by have := HS0.out; omega)
        have HLE := hid (show S.length = ps.length by rw [← HSS.out, ← HE.out]; exact (sort_all HO.out ps).2.1)
        have HSP := hid (show sortG (fun x y => decide (cmpA ls x y < 0)) ps = S by rw [← HSS.out, ← HE.out]; rfl)
        rw [HSP.out] at CS
        obtain ⟨nk, hnk⟩ : ∃ nk, ps.length = nk := ⟨_, rfl⟩
        have HNK := hid hnk
        rw [hnk] at CS ⊢
        clear HOW HNA HPZ HK hnk h2 h3
        go_wp2_with fail
        refine CS.out.mono ?_
        rintro e w2 ⟨rfl, h4, h5⟩
        have H4 := hid h4
        have H5 := hid (show Below w.heap.size w w2 from HB0.out.trans (h5.mono HB0.out.size))
        clear h4 h5 CS
        go_wp2_with fail
        go_ret
        exact ⟨some ⟨G, 0, none⟩, c8, by rw [HLE.out, HNK.out]; rfl, .inr ⟨G, rfl, HGB.out, H4.out⟩, H5.out⟩

end Go.Proofs.YtkejmifkjgpdjaaGreat
