/- The prefixes that are needed: sorted and each once they are the specification's (mathematics alone). Which of two attrs the program holds ahead: contracts of cmp.Compare, cmp.Or, cmp.Less, compareNames and meantAttr. Which of two attrs the program holds ahead: contracts of compareNames, meantAttr and of the closure that SortFunc is handed. -/
import Derived.Test.YtkejmifkjgpdjaaGreatM30
import Derived.Test.YtkejmifkjgpdjaaGreatM28
import Derived.Test.YtkejmifkjgpdjaaGreatM1
import Derived.Test.YtkejmifkjgpdjaaGreatM25
import Derived.Test.YtkejmifkjgpdjaaGreatM19
import Derived.Lib.SlicesCompact
import Derived.Sort.Walk0
import Derived.Laws.Cover1
import Derived.Deep.RegionHeld3
namespace Go.Proofs.YtkejmifkjgpdjaaGreat
open Go.RowKit
set_option linter.unusedVariables false

abbrev BL := List UInt8

def mkB (l : BL) : ByteArray := ⟨l.toArray⟩

theorem mkB_list (l : BL) : (mkB l).toList = l := by unfold mkB; rw [ByteArray.toList_eq]

theorem mkB_eta (s : ByteArray) : mkB s.toList = s := by unfold mkB; rw [ByteArray.toList_eq]

theorem bl_le (x y : BL) : decide (x ≤ y) = !Op.bytesLess y x := by
  rw [bytesLess_eq]
  by_cases h : y < x
  · rw [decide_eq_true h, decide_eq_false (fun h2 => List.not_lt.2 h2 h)]; rfl
  · rw [decide_eq_false h, decide_eq_true (List.not_lt.1 h)]; rfl

theorem merge_all (ss : List BL) : ((ss.mergeSort fun x y => decide (x ≤ y)).Pairwise fun a b => Op.bytesLess b a = false) ∧ ∀ y, y ∈ (ss.mergeSort fun x y => decide (x ≤ y)) ↔ y ∈ ss := by
  refine ⟨?_, fun y => List.mem_mergeSort⟩
  have h := List.pairwise_mergeSort (le := fun x y : BL => decide (x ≤ y)) (fun a b c h1 h2 => ?_) (fun a b => ?_) ss
  · refine h.imp fun {a b} hab => ?_
    rw [bl_le] at hab
    simpa using hab
  · rw [bl_le] at h1 h2 ⊢
    have e1 : Op.bytesLess b a = false := by simpa using h1
    have e2 : Op.bytesLess c b = false := by simpa using h2
    have e3 : Op.bytesLess c a = false := by
      have := ltB_ord.neg (mkB c) (mkB b) (mkB a)
      unfold ltB at this
      rw [mkB_list, mkB_list, mkB_list] at this
      exact this e2 e1
    rw [e3]; rfl
  · rw [bl_le, bl_le]
    cases h1 : Op.bytesLess b a with
    | false => rfl
    | true =>
      have := ltB_ord.asym (mkB b) (mkB a)
      unfold ltB at this
      rw [mkB_list, mkB_list] at this
      rw [this h1]; rfl

theorem comp_all {zs : List BL} (h : zs.Pairwise fun a b => Op.bytesLess b a = false) : ((Lib.compact zs).Pairwise fun a b => Op.bytesLess a b = true) ∧ ∀ y, y ∈ Lib.compact zs ↔ y ∈ zs := by
  have hg : ∀ i (hi : i < zs.length), zs.toArray[i]! = zs[i] := fun i hi => by simp [hi]
  have hle : ∀ i j (hi : i ≤ j) (hj : j < zs.length), Op.bytesLess zs[j] zs[i] = false := fun i j hi hj => by
    rcases Nat.lt_or_eq_of_le hi with h1 | h1
    · exact List.pairwise_iff_getElem.1 h i j (by omega) hj h1
    · subst h1; exact bl_irr _
  have hlt : ∀ a b : BL, Op.bytesLess b a = false → ¬ a = b → Op.bytesLess a b = true := fun a b h1 h2 => by
    cases q : Op.bytesLess a b with
    | true => rfl
    | false => exact absurd (bl_tri _ _ q h1) h2
  refine ⟨?_, fun y => ⟨fun hy => ?_, fun hy => ?_⟩⟩
  · unfold Lib.compact Lib.compactUpTo
    rw [List.pairwise_map, List.pairwise_filter]
    refine List.pairwise_lt_range.imp_of_mem fun {i j} hi hj hij k1 k2 => ?_
    have hi' : i < zs.length := List.mem_range.1 hi
    have hj' : j < zs.length := List.mem_range.1 hj
    rw [hg i hi', hg j hj']
    have k3 : ¬ zs[j] = zs[j - 1] := by
      unfold Lib.keeps at k2
      rw [decide_eq_true_eq] at k2
      rcases k2 with k2 | k2
      · omega
      · rw [hg j hj', hg (j - 1) (by omega)] at k2; exact k2
    have a1 := hlt zs[j - 1] zs[j] (hle (j - 1) j (by omega) hj') (fun e => k3 e.symm)
    cases q : Op.bytesLess zs[i] zs[j] with
    | true => rfl
    | false =>
      have a2 := hle i (j - 1) (by omega) (by omega)
      have := ltB_ord.neg (mkB zs[j - 1]) (mkB zs[i]) (mkB zs[j])
      unfold ltB at this
      rw [mkB_list, mkB_list, mkB_list] at this
      rw [this a2 q] at a1
      cases a1
  · unfold Lib.compact Lib.compactUpTo at hy
    obtain ⟨i, hi, rfl⟩ := List.mem_map.1 hy
    have hi' : i < zs.length := List.mem_range.1 (List.mem_filter.1 hi).1
    rw [hg i hi']
    exact List.getElem_mem hi'
  · obtain ⟨i, hi, rfl⟩ := List.mem_iff_getElem.1 hy
    have key : ∀ k (hk : k < zs.length), zs[k] ∈ Lib.compact zs := by
      intro k
      induction k with
      | zero =>
        intro hk
        unfold Lib.compact Lib.compactUpTo
        exact List.mem_map.2 ⟨0, List.mem_filter.2 ⟨List.mem_range.2 hk, by simp [Lib.keeps]⟩, hg 0 hk⟩
      | succ k ih =>
        intro hk
        by_cases e : zs[k + 1] = zs[k]
        · rw [e]; exact ih (by omega)
        · unfold Lib.compact Lib.compactUpTo
          refine List.mem_map.2 ⟨k + 1, List.mem_filter.2 ⟨List.mem_range.2 hk, ?_⟩, hg (k + 1) hk⟩
          unfold Lib.keeps
          rw [decide_eq_true_eq]
          refine .inr ?_
          rw [hg (k + 1) hk, Nat.add_sub_cancel, hg k (by omega)]
          exact e
    exact key i hi

theorem acc_strict {ps : List ByteArray} (h : StrictB ps) (x : At) : StrictB (accP ps x) ∧ ∀ y, y ∈ accP ps x ↔ y ∈ ps ∨ (cntB x = true ∧ y = preS x.name) := by
  unfold accP cntB
  split
  · rename_i h1
    exact ⟨h, fun y => by simp [h1]⟩
  · rename_i h1
    split
    · rename_i h2
      exact ⟨h, fun y => by simp [h2]⟩
    · rename_i h2
      obtain ⟨a, b⟩ := put_parts ps (preS x.name) h
      refine ⟨a, fun y => ?_⟩
      rw [b]
      have : (!(declF x).isSome && !decide ((preS x.name).size = 0)) = true := by
        rw [decide_eq_false h2]
        cases q : (declF x).isSome with
        | false => rfl
        | true => exact absurd q h1
      rw [this]
      simp

theorem pre_strict (nm : ByteArray) (l : List At) : StrictB (preL7 nm l) ∧ ∀ y, y ∈ preL7 nm l ↔ y = preS nm ∨ ∃ x ∈ l, cntB x = true ∧ y = preS x.name := by
  unfold preL7
  have key : ∀ (l : List At) (ps : List ByteArray), StrictB ps → StrictB (l.foldl accP ps) ∧ ∀ y, y ∈ l.foldl accP ps ↔ y ∈ ps ∨ ∃ x ∈ l, cntB x = true ∧ y = preS x.name := by
    intro l
    induction l with
    | nil => intro ps h; exact ⟨h, fun y => by simp⟩
    | cons z l ih =>
      intro ps h
      obtain ⟨a, b⟩ := acc_strict h z
      obtain ⟨c, d⟩ := ih _ a
      refine ⟨c, fun y => ?_⟩
      rw [List.foldl_cons, d, b]
      constructor
      · rintro ((h | ⟨h1, h2⟩) | ⟨x, h1, h2⟩)
        · exact .inl h
        · exact .inr ⟨z, by simp, h1, h2⟩
        · exact .inr ⟨x, by simp [h1], h2⟩
      · rintro (h | ⟨x, h1, h2⟩)
        · exact .inl (.inl h)
        · rcases List.mem_cons.1 h1 with rfl | h1
          · exact .inl (.inr h2)
          · exact .inr ⟨x, h1, h2⟩
  obtain ⟨a, b⟩ := key l [preS nm] (List.pairwise_singleton _ _)
  exact ⟨a, fun y => by rw [b, List.mem_singleton]⟩

/-- What the program makes of the prefixes of the others, in whatever order these stand. -/
theorem need_is {nm : ByteArray} {l os : List At} (hm : ∀ x, x ∈ os ↔ x ∈ l.filter fun x => !(declF x).isSome) :
    (Lib.compact ((([preS nm] ++ (os.filter fun x => !decide ((preS x.name).size = 0)).map fun x => preS x.name).map ByteArray.toList).mergeSort fun x y => decide (x ≤ y))).map mkB = preL7 nm l := by
  obtain ⟨a1, a2⟩ := merge_all (([preS nm] ++ (os.filter fun x => !decide ((preS x.name).size = 0)).map fun x => preS x.name).map ByteArray.toList)
  obtain ⟨b1, b2⟩ := comp_all a1
  obtain ⟨c1, c2⟩ := pre_strict nm l
  refine strict_same ?_ c1 fun y => ?_
  · unfold StrictB
    rw [List.pairwise_map]
    refine b1.imp fun {a b} h => ?_
    unfold ltB
    rw [mkB_list, mkB_list]
    exact h
  · rw [c2, List.mem_map]
    constructor
    · rintro ⟨z, hz, rfl⟩
      rw [b2, a2, List.mem_map] at hz
      obtain ⟨u, hu, rfl⟩ := hz
      rw [mkB_eta]
      rcases List.mem_append.1 hu with h | h
      · exact .inl (List.mem_singleton.1 h)
      · obtain ⟨x, hx, rfl⟩ := List.mem_map.1 h
        obtain ⟨h1, h2⟩ := List.mem_filter.1 hx
        obtain ⟨h3, h4⟩ := List.mem_filter.1 ((hm x).1 h1)
        exact .inr ⟨x, h3, by unfold cntB; rw [h4, h2]; rfl, rfl⟩
    · intro h
      refine ⟨y.toList, ?_, mkB_eta y⟩
      rw [b2, a2, List.mem_map]
      refine ⟨y, ?_, rfl⟩
      rcases h with rfl | ⟨x, h1, h2, rfl⟩
      · simp
      · unfold cntB at h2
        rw [Bool.and_eq_true] at h2
        exact List.mem_append_right _ (List.mem_map.2 ⟨x, List.mem_filter.2 ⟨(hm x).2 (List.mem_filter.2 ⟨h1, h2.1⟩), h2.2⟩, rfl⟩)

end Go.Proofs.YtkejmifkjgpdjaaGreat

namespace Go.Proofs.YtkejmifkjgpdjaaGreat
open Go.RowKit
set_option linter.unusedVariables false
set_option linter.unusedSimpArgs false

theorem cIsNaN (x : ByteArray) (w : World) : Calls Tryz.prog 161 #[.string x] w fun e w' => e = .returned (.bool false) ∧ w' = w := by
  have hx : (x.toList != x.toList) = false := by simp
  go_enter Tryz.func161, Tryz.ntmps161
  go_wp2
  go_ret
  exact ⟨rfl, rfl⟩

/-- Less, alike, greater. -/
noncomputable def cmpV (x y : ByteArray) : Int := if ltB x y = true then -1 else open Classical in if x = y then 0 else 1

set_option maxHeartbeats 2000000 in
theorem cCompare (x y : ByteArray) (w : World) : Calls Tryz.prog 147 #[.string x, .string y] w fun e w' => e = .returned (.int .i64 (cmpV x y)) ∧ w' = w := by
  have C1 := hid (fun wx => cIsNaN x wx)
  have C2 := hid (fun wx => cIsNaN y wx)
  obtain ⟨V, hV⟩ : ∃ V, cmpV x y = V := ⟨_, rfl⟩
  rw [hV]
  cases h1 : ltB x y with
  | true =>
    have HV := hid (show V = -1 by rw [← hV]; unfold cmpV; rw [if_pos h1])
    clear hV
    unfold ltB at h1
    go_enter Tryz.func147, Tryz.ntmps147
    go_wp2_with fail
    refine (C1.out _).mono ?_
    rintro e w1 ⟨rfl, rfl⟩
    go_wp2_with fail
    refine (C2.out _).mono ?_
    rintro e w2 ⟨rfl, rfl⟩
    go_wp2_with fail
    go_ret
    exact ⟨by rw [HV.out]; rfl, rfl⟩
  | false =>
    by_cases h2 : x = y
    · have HV := hid (show V = 0 by rw [← hV]; unfold cmpV; rw [if_neg (by rw [h1]; exact Bool.false_ne_true), if_pos h2])
      have h3 : (x.toList == y.toList) = true := by rw [str_beq]; exact decide_eq_true h2
      have h4 : (x.toList != y.toList) = false := by unfold bne; rw [h3]; rfl
      clear hV h2
      unfold ltB at h1
      go_enter Tryz.func147, Tryz.ntmps147
      go_wp2_with fail
      refine (C1.out _).mono ?_
      rintro e w1 ⟨rfl, rfl⟩
      go_wp2_with fail
      refine (C2.out _).mono ?_
      rintro e w2 ⟨rfl, rfl⟩
      go_wp2_with fail
      go_ret
      exact ⟨by rw [HV.out]; rfl, rfl⟩
    · have HV := hid (show V = 1 by rw [← hV]; unfold cmpV; rw [if_neg (by rw [h1]; exact Bool.false_ne_true), if_neg h2])
      have h3 : (x.toList == y.toList) = false := by rw [str_beq]; exact decide_eq_false h2
      have h4 : (x.toList != y.toList) = true := by unfold bne; rw [h3]; rfl
      clear hV h2
      unfold ltB at h1
      go_enter Tryz.func147, Tryz.ntmps147
      go_wp2_with fail
      refine (C1.out _).mono ?_
      rintro e w1 ⟨rfl, rfl⟩
      go_wp2_with fail
      refine (C2.out _).mono ?_
      rintro e w2 ⟨rfl, rfl⟩
      go_wp2_with fail
      go_ret
      exact ⟨by rw [HV.out]; rfl, rfl⟩

set_option maxHeartbeats 2000000 in
theorem cLess (x y : ByteArray) (w : World) : Calls Tryz.prog 168 #[.string x, .string y] w fun e w' => e = .returned (.bool (ltB x y)) ∧ w' = w := by
  have C1 := hid (fun wx => cIsNaN x wx)
  unfold ltB
  go_enter Tryz.func168, Tryz.ntmps168
  go_wp2_with fail
  refine (C1.out _).mono ?_
  rintro e w1 ⟨rfl, rfl⟩
  go_wp2_with fail
  go_ret
  exact ⟨rfl, rfl⟩

/-- The first that is not nothing. -/
def orV (a b : Int) : Int := if a = 0 then b else a

set_option maxHeartbeats 2000000 in
theorem cOr (g : Nat) (a b : Int) (w : World) (h1 : w.cell? ⟨g, 0, none⟩ = some (.int .i64 a)) (h2 : w.cell? ⟨g, 1, none⟩ = some (.int .i64 b)) :
    Calls Tryz.prog 146 #[.slice (some ⟨g, 0, none⟩) 2 2] w fun e w' => e = .returned (.int .i64 (orV a b)) ∧ w' = w := by
  obtain ⟨V, hV⟩ : ∃ V, orV a b = V := ⟨_, rfl⟩
  rw [hV]
  by_cases ha : a = 0
  · by_cases hb : b = 0
    · have HV := hid (show V = 0 by rw [← hV]; unfold orV; rw [if_pos ha, hb])
      subst ha hb
      clear hV
      go_enter Tryz.func146, Tryz.ntmps146
      go_wp2
      refine wp_loop_rounds 3 ?_
      rw [rounds_succ]
      go_wp2_with fail
      rw [rounds_succ]
      go_wp2_with fail
      rw [rounds_succ]
      go_wp2_with fail
      go_ret
      exact ⟨by rw [HV.out]; rfl, rfl⟩
    · have HV := hid (show V = b by rw [← hV]; unfold orV; rw [if_pos ha])
      subst ha
      have hb' : (b != 0) = true := by simpa using hb
      clear hV
      go_enter Tryz.func146, Tryz.ntmps146
      go_wp2
      refine wp_loop_rounds 3 ?_
      rw [rounds_succ]
      go_wp2_with fail
      rw [rounds_succ]
      go_wp2_with fail
      go_ret
      exact ⟨by rw [HV.out]; rfl, rfl⟩
  · have HV := hid (show V = a by rw [← hV]; unfold orV; rw [if_neg ha])
    have ha' : (a != 0) = true := by simpa using ha
    clear hV
    go_enter Tryz.func146, Tryz.ntmps146
    go_wp2
    refine wp_loop_rounds 3 ?_
    rw [rounds_succ]
    go_wp2_with fail
    go_ret
    exact ⟨by rw [HV.out]; rfl, rfl⟩

end Go.Proofs.YtkejmifkjgpdjaaGreat

namespace Go.Proofs.YtkejmifkjgpdjaaGreat
open Go.RowKit
set_option linter.unusedVariables false
set_option linter.unusedSimpArgs false

noncomputable def cmpN (M L N K : ByteArray) : Int := orV (cmpV M N) (cmpV L K)

theorem cmpN_ahead {ts : List Tk} {k : Nat} {x y : At} : decide (cmpN (atMean ts k x) (locS x.name) (atMean ts k y) (locS y.name) < 0) = aheadF ts k x y := by
  unfold cmpN aheadF cmpV orV
  cases h1 : ltB (atMean ts k x) (atMean ts k y) with
  | true => simp
  | false =>
    by_cases h2 : atMean ts k x = atMean ts k y
    · cases h3 : ltB (locS x.name) (locS y.name) with
      | true => simp [h2]
      | false =>
        by_cases h4 : locS x.name = locS y.name
        · simp [h2, h4]
        · simp [h2, h4]
    · simp [h2]

set_option maxRecDepth 4000 in
set_option maxHeartbeats 4000000 in
theorem cCompareNames (M L N K : ByteArray) (w : World) :
    Calls Tryz.prog 129 #[.agg #[.string M, .string L], .agg #[.string N, .string K]] w fun e w' => e = .returned (.int .i64 (cmpN M L N K)) ∧ Below w.heap.size w w' := by
  have HB := hid (((Below.refl w.heap.size w).alloc (Nat.le_refl _) (.cells #[.string M, .string L] 145)).alloc (by simp) (.cells #[.string N, .string K] 145))
  have C1 := hid (fun wx => cCompare M N wx)
  have C2 := hid (fun wx => cCompare L K wx)
  have CO := hid (fun g a b wx => cOr g a b wx)
  unfold cmpN
  generalize cmpV M N = P at *
  generalize cmpV L K = Q at *
  have M0 := blk_alloc (heap_alloc_new w (.cells #[.string M, .string L] 145)) (.cells #[.string N, .string K] 145)
  have M1 := heap_two w (.cells #[.string M, .string L] 145) (.cells #[.string N, .string K] 145)
  have hs : ((w.alloc (.cells #[.string M, .string L] 145)).alloc (.cells #[.string N, .string K] 145)).heap.size = w.heap.size + 2 := by simp
  obtain ⟨g, hg⟩ : ∃ g, w.heap.size = g := ⟨_, rfl⟩
  have Hg := hid hg
  go_enter Tryz.func129, Tryz.ntmps129
  go_wp2_with fail
  obtain ⟨W, hW⟩ : ∃ W, (w.alloc (.cells #[.string M, .string L] 145)).alloc (.cells #[.string N, .string K] 145) = W := ⟨_, rfl⟩
  rw [hW] at HB
  simp only [hW, hg] at M0 M1 hs ⊢
  have HSX := hid (show ∀ W', Below W.heap.size W W' → W'.cell? ⟨g, 0, none⟩ = some (.string M) ∧ W'.cell? ⟨g, 1, none⟩ = some (.string L) ∧ W'.cell? ⟨g + 1, 0, none⟩ = some (.string N) ∧ W'.cell? ⟨g + 1, 1, none⟩ = some (.string K) from fun W' hb => ⟨(box2e (blk_below M0 hb)).1.1, (box2e (blk_below M0 hb)).1.2, (box2e (blk_below M1 hb)).1.1, (box2e (blk_below M1 hb)).1.2⟩)
  have HBc := hid ((Below.refl W.heap.size W).drew)
  have K0 := hid ((box2e (heap_alloc_new W (.cells #[.int .i64 P, .int .i64 Q] 3))).1)
  have CX := hid (CO.out W.heap.size P Q (W.alloc (.cells #[.int .i64 P, .int .i64 Q] 3)).drew K0.out.1 K0.out.2)
  have HB9 := hid ((HB.out.alloc HB.out.size (.cells #[.int .i64 P, .int .i64 Q] 3)).drew)
  clear hW M0 M1 hs hg
  go_region_held3 (fun w' => w'.cell? ⟨g, 0, none⟩ = some (.string M) ∧ w'.cell? ⟨g, 1, none⟩ = some (.string L) ∧ w'.cell? ⟨g + 1, 0, none⟩ = some (.string N) ∧ w'.cell? ⟨g + 1, 1, none⟩ = some (.string K)) (first | exact HSX.out _ HBc.out | exact HSX.out _ (HBc.out.alloc HBc.out.size _))
    (first
      | (go_at_call 147; (with_reducible refine (C1.out _).mono ?_); rintro e w1 ⟨rfl, hw1⟩; subst hw1)
      | (go_at_call 147; (with_reducible refine (C2.out _).mono ?_); rintro e w1 ⟨rfl, hw1⟩; subst hw1)
      | (go_at_call 146; refine CX.out.mono ?_; rintro e w1 ⟨rfl, hw1⟩; subst hw1))
  go_wp2_with fail
  go_ret
  exact ⟨rfl, HB9.out⟩

/-- What an attr's name means by these. -/
noncomputable def mnL (ls : List At) (x : At) : ByteArray := if (preS x.name).size = 0 then ⟨#[]⟩ else (lookL ls (preS x.name)).getD ⟨#[]⟩

theorem mnL_mean {ts : List Tk} {k : Nat} (h : (outAts ts k).all rightB = true) (x : At) : mnL (outAts ts k) x = atMean ts k x := by
  unfold mnL atMean
  rw [meanF_look h]

set_option maxRecDepth 4000 in
set_option maxHeartbeats 2000000 in
theorem cMeantAttr (x : At) (F : FuncId) (C : Array Value) (ls : List At) (w : World) (hA : Asks F C w ls) (hx : x.name.size ≤ 1048576) :
    Calls Tryz.prog 130 #[.agg #[.string x.name, .string x.value], .func (.func F) #[] C] w fun e w' => e = .returned (.agg #[.string (mnL ls x), .string (locS x.name)]) ∧ Below w.heap.size w w' := by
  have CP := hid (fun wx => cPartsI x.name wx hx)
  have HB0 := hid (((Below.refl w.heap.size w).alloc (Nat.le_refl _) (.cells #[.string x.name, .string x.value] 62)).alloc (by simp) (.cells #[.string ⟨#[]⟩, .string ⟨#[]⟩] 145))
  have M1 := hid (heap_two w (.cells #[.string x.name, .string x.value] 62) (.cells #[.string ⟨#[]⟩, .string ⟨#[]⟩] 145))
  have he := hA.1 (preS x.name)
  have CM := hid (fun wx (hb : Below w.heap.size w wx) => hA.2 (preS x.name) wx hb (preS_sz hx))
  have E := empty_is (preS x.name)
  have HM := hid (show mnL ls x = if (preS x.name).size = 0 then ⟨#[]⟩ else (lookL ls (preS x.name)).getD ⟨#[]⟩ from rfl)
  generalize mnL ls x = V at *
  generalize (lookL ls (preS x.name)).getD ⟨#[]⟩ = M at *
  generalize (lookL ls (preS x.name)).isSome = I at *
  generalize preS x.name = P at *
  generalize locS x.name = L at *
  clear hA hx
  by_cases hq : P.size = 0
  · have HV := hid (show V = ⟨#[]⟩ by rw [HM.out, if_pos hq])
    rw [decide_eq_true hq] at E
    clear HM hq CM he
    go_enter Tryz.func130, Tryz.ntmps130
    go_wp2_with fail
    refine (CP.out _).mono ?_
    rintro e w1 ⟨rfl, hb1⟩
    have HB1 := hid (bb HB0.out hb1)
    obtain ⟨⟨y0, y1⟩, f0, f1⟩ := box2e (blk_below M1.out hb1)
    clear hb1
    go_wp2_with fail
    refine bodyPost_ret (v := .agg #[.string ⟨#[]⟩, .string L]) (by simp [results, Tryz.results130, go_sem, y0, y1]) rfl ⟨by rw [HV.out], ?_⟩
    iterate 2 refine Below.setCell ?_ (Nat.le_succ _) _
    exact HB1.out
  · have HV := hid (show V = M by rw [HM.out, if_neg hq])
    rw [decide_eq_false hq] at E
    clear HM hq
    go_enter Tryz.func130, Tryz.ntmps130
    go_wp2_with fail
    refine (CP.out _).mono ?_
    rintro e w1 ⟨rfl, hb1⟩
    have HB1 := hid (bb HB0.out hb1)
    have M2 := hid (blk_below M1.out hb1)
    clear hb1
    go_wp2_with fail
    refine (CM.out _ HB1.out).mono ?_
    rintro e w2 ⟨rfl, hb2⟩
    have HB2 := hid (bb HB1.out hb2)
    obtain ⟨⟨y0, y1⟩, f0, f1⟩ := box2e (blk_below M2.out hb2)
    clear hb2
    go_wp2_with fail
    refine bodyPost_ret (v := .agg #[.string M, .string L]) (by simp [results, Tryz.results130, go_sem, y0, y1]) rfl ⟨by rw [HV.out], ?_⟩
    iterate 2 refine Below.setCell ?_ (Nat.le_succ _) _
    exact HB2.out

/-- What the closure answers. -/
noncomputable def cmpA (ls : List At) (x y : At) : Int := cmpN (mnL ls x) (locS x.name) (mnL ls y) (locS y.name)

set_option maxRecDepth 4000 in
set_option maxHeartbeats 4000000 in
theorem cCmpA (x y : At) (F : FuncId) (C : Array Value) (ls : List At) (b : Nat) (w : World) (hA : Asks F C w ls) (hb : b < w.heap.size) (hc : w.cell? ⟨b, 0, none⟩ = some (.func (.func F) #[] C)) (hx : x.name.size ≤ 1048576) (hy : y.name.size ≤ 1048576) :
    Calls Tryz.prog 128 #[.agg #[.string x.name, .string x.value], .agg #[.string y.name, .string y.value], .pointer (some ⟨b, 0, none⟩)] w fun e w' => e = .returned (.int .i64 (cmpA ls x y)) ∧ Below w.heap.size w w' := by
  have HB := hid (((Below.refl w.heap.size w).alloc (Nat.le_refl _) (.cells #[.string x.name, .string x.value] 62)).alloc (by simp) (.cells #[.string y.name, .string y.value] 62))
  have M0 := hid (blk_alloc (heap_alloc_new w (.cells #[.string x.name, .string x.value] 62)) (.cells #[.string y.name, .string y.value] 62))
  have M1 := hid (heap_two w (.cells #[.string x.name, .string x.value] 62) (.cells #[.string y.name, .string y.value] 62))
  have HG := hid (HB.out.cell (p := ⟨b, 0, none⟩) hb |>.trans hc)
  obtain ⟨W, hW⟩ : ∃ W, (w.alloc (.cells #[.string x.name, .string x.value] 62)).alloc (.cells #[.string y.name, .string y.value] 62) = W := ⟨_, rfl⟩
  obtain ⟨g, hg⟩ : ∃ g, w.heap.size = g := ⟨_, rfl⟩
  have hWs : W.heap.size = g + 2 := by rw [← hW, ← hg]; simp
  rw [hW] at HB M0 M1 HG
  rw [hg] at M0 M1
  have CA := hid (fun p : BW W => cMeantAttr x F C ls p.w (hA.below (bb HB.out p.h)) hx)
  have CB := hid (fun p : BW W => cMeantAttr y F C ls p.w (hA.below (bb HB.out p.h)) hy)
  have CC := hid (fun p : BW W => cCompareNames (mnL ls x) (locS x.name) (mnL ls y) (locS y.name) p.w)
  have k0 : ∀ p : BW W, p.w.cell? ⟨g, 0, none⟩ = some (.string x.name) := fun p => (box2e (blk_below M0.out p.h)).1.1
  have k1 : ∀ p : BW W, p.w.cell? ⟨g, 1, none⟩ = some (.string x.value) := fun p => (box2e (blk_below M0.out p.h)).1.2
  have k2 : ∀ p : BW W, p.w.cell? ⟨g + 1, 0, none⟩ = some (.string y.name) := fun p => (box2e (blk_below M1.out p.h)).1.1
  have k3 : ∀ p : BW W, p.w.cell? ⟨g + 1, 1, none⟩ = some (.string y.value) := fun p => (box2e (blk_below M1.out p.h)).1.2
  have k4 : ∀ p : BW W, p.w.cell? ⟨b, 0, none⟩ = some (.func (.func F) #[] C) := fun p => (p.h.cell (p := ⟨b, 0, none⟩) (by show b < W.heap.size; omega)).trans HG.out
  have HNB := hid (bw_any W)
  have HW := hid hW
  have Hg := hid hg
  unfold cmpA
  generalize cmpN (mnL ls x) (locS x.name) (mnL ls y) (locS y.name) = V at *
  generalize mnL ls x = m1 at *
  generalize mnL ls y = m2 at *
  generalize locS x.name = l1 at *
  generalize locS y.name = l2 at *
  clear hA hc hx hy HG M0 M1 hWs hb hW hg
  go_enter Tryz.func128, Tryz.ntmps128
  go_wp2_with fail
  simp only [HW.out, Hg.out]
  haveI := HNB.out
  refine wp_region_below (by kernel_rfl) (by kernel_rfl) (Below.refl W.heap.size W) ?_
  repeat (go_big_quiet_step ((first | (go_at_call 130; first | (with_reducible exact calls_bw _ (CA.out _)) | (with_reducible exact calls_bw _ (CB.out _))) | (go_at_call 129; exact calls_bw _ (CC.out _)))))
  refine wpQuiet_nil ?_
  intro _ hw'
  obtain ⟨⟨wq, hwq⟩, hw''⟩ := hw'
  subst hw''
  have HWQ := hid (bb HB.out hwq)
  clear hwq k0 k1 k2 k3 k4
  go_wp2_with fail
  go_ret
  exact ⟨rfl, HWQ.out⟩

end Go.Proofs.YtkejmifkjgpdjaaGreat
