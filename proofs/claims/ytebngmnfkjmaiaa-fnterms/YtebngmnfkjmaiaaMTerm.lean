/- Contracts of Widened, Within and Past, of the program and of the specification: one answer. -/
import Derived.Test.YtebngmnfkjmaiaaTLater
import Derived.Test.YtebngmnfkjmaiaaKit
import Derived.Test.YtebngmnfkjmaiaaTDraw
namespace Go.Proofs.Ytebngmnfkjmaiaa
open Go.RowKit
set_option linter.unusedVariables false
set_option linter.unusedSimpArgs false

def tmB (x : Int) : Bool := decide (0 ≤ x ∧ x ≤ 3155759999)
def skB (s : Int) : Bool := decide (0 ≤ s ∧ s ≤ 86400)

theorem hidM {P : Prop} (h : P) : Hid P := h

theorem cSkewI (s : Int) (w : World) :
    Calls Try.prog 20 #[.int .i64 s] w fun e w' => e = .returned (.bool (skB s)) ∧ w' = w := by
  go_enter Try.func20, Try.ntmps20
  go_wp2
  all_goals go_ret
  all_goals exact ⟨by unfold skB; congr 2; simp; try omega, rfl⟩

theorem cSkewS (s : Int) (w : World) :
    Calls Try.prog 24 #[.int .i64 s] w fun e w' => e = .returned (.bool (skB s)) ∧ w' = w := by
  go_enter Try.func24, Try.ntmps24
  go_wp2_with (go_at_call 28; refine (cIn _ _ _ _).mono ?_; rintro e w' ⟨rfl, rfl⟩)
  go_ret
  exact ⟨by unfold skB; congr 2; simp, rfl⟩

theorem tm_take {l : List Int} {i : Nat} (h : i < l.length) (H : ∀ x ∈ l.take i, tmB x = true) (e : tmB l[i] = true) : ∀ x ∈ l.take (i + 1), tmB x = true := by
  intro x hx
  rw [List.take_succ_eq_append_getElem h] at hx
  rcases List.mem_append.1 hx with hx | hx
  · exact H x hx
  · rw [List.mem_singleton.1 hx]; exact e

theorem cTimesOk (B : Nat) (l : List Int) (w : World) (hl : l.length ≤ 1000)
    (hc : ∀ i (h : i < l.length), w.cell? ⟨B, i, none⟩ = some (.int .i64 l[i])) :
    Calls Try.prog 21 #[.slice (some ⟨B, 0, none⟩) l.length l.length] w fun e w' => e = .returned (.bool (l.all tmB)) ∧ w' = w := by
  have HC := hidM hc
  clear hc
  obtain ⟨R, hR⟩ : ∃ R : Bool, l.all tmB = R := ⟨_, rfl⟩
  have HR := hidM hR
  rw [hR]
  clear hR
  obtain ⟨n, hnn⟩ : ∃ n, l.length = n := ⟨_, rfl⟩
  have HN := hidM hnn
  rw [hnn] at hl ⊢
  clear hnn
  go_enter Try.func21, Try.ntmps21
  go_wp2
  go_loopw [7] (fun k wr => ∃ i : Nat, k = .int .i64 (i : Int) ∧ i ≤ n ∧ Hid (∀ x ∈ l.take i, tmB x = true) ∧ wr = w) (fun k _ => n - (intOf k).toNat)
  case atStart => exact ⟨0, rfl, Nat.zero_le _, fun x hx => by simp at hx, rfl⟩
  case round =>
    obtain ⟨i, rfl, hi, HO, rfl⟩ := hrel
    by_cases hlt : i < n
    · have his : i < l.length := by rw [HN.out]; exact hlt
      have hin : (i : Int) < (n : Int) := by omega
      have c1 := HC.out i his
      have C := fun w => cTimeI l[i] w
      have HT := hidM (fun e => tm_take his HO.out e)
      have hF := hidM (fun (e : tmB l[i] = false) => (List.all_eq_false.2 ⟨l[i], List.getElem_mem his, by simp [e]⟩ : l.all tmB = false))
      have e0 : decide (0 ≤ l[i] ∧ l[i] ≤ 3155759999) = tmB l[i] := rfl
      rw [e0] at C
      clear e0
      generalize l[i] = x at *
      generalize hT : tmB x = T at *
      cases T
      · obtain rfl : R = false := HR.out.symm.trans (hF.out rfl)
        go_wp2_with fail
        refine (C _).mono ?_
        rintro e w1 ⟨rfl, rfl⟩
        go_wp2
        go_ret
        exact ⟨rfl, rfl⟩
      · have HT1 := hidM (HT.out rfl)
        go_wp2_with fail
        refine (C _).mono ?_
        rintro e w1 ⟨rfl, rfl⟩
        go_wp2
        exact ⟨⟨i + 1, by simp, by omega, HT1.out, trivial⟩, by simp [intOf]; omega⟩
    · have hin : ¬ (i : Int) < (n : Int) := by omega
      have hR1 := hidM (show l.all tmB = true from List.all_eq_true.2 (fun x hx => HO.out x (by rw [List.take_of_length_le (by rw [HN.out]; omega)]; exact hx)))
      obtain rfl : R = true := HR.out.symm.trans hR1.out
      go_wp2
      go_ret
      exact ⟨rfl, rfl⟩

def widA (a b s : Int) : Int := if skB s && (tmB a && tmB b) then laterOf a (-s) else -1
def widB (a b s : Int) : Int := if skB s && (tmB a && tmB b) then laterOf b s else -1
def witB (a b n s : Int) : Bool := skB s && (tmB a && (tmB b && tmB n)) && (decide (widA a b s ≤ n) && decide (n < widB a b s))
def pasB (b n s : Int) : Bool := skB s && (tmB b && tmB n) && decide (widB b b s ≤ n)

theorem two_cells (w : World) (T : TypeId) (k : Nat × Nat) (x y : Int) : ∀ i (h : i < [x, y].length), (w.alloc (.cells #[.int .i64 x, .int .i64 y] T k)).cell? ⟨w.heap.size, i, none⟩ = some (.int .i64 [x, y][i]) := by
  intro i h
  rw [Lib.cell_of_heap (heap_alloc_new w _)]
  rcases (show i = 0 ∨ i = 1 from by simp at h; omega) with rfl | rfl
  all_goals rfl

theorem three_cells (w : World) (T : TypeId) (k : Nat × Nat) (x y z : Int) : ∀ i (h : i < [x, y, z].length), (w.alloc (.cells #[.int .i64 x, .int .i64 y, .int .i64 z] T k)).cell? ⟨w.heap.size, i, none⟩ = some (.int .i64 [x, y, z][i]) := by
  intro i h
  rw [Lib.cell_of_heap (heap_alloc_new w _)]
  rcases (show i = 0 ∨ i = 1 ∨ i = 2 from by simp at h; omega) with rfl | rfl | rfl
  all_goals rfl

theorem cWidenedI (a b s : Int) (w : World) :
    Calls Try.prog 11 #[.int .i64 a, .int .i64 b, .int .i64 s] w fun e w' => e = .returned (.tuple #[.int .i64 (widA a b s), .int .i64 (widB a b s)]) ∧ Below w.heap.size w w' := by
  have C := fun w => cSkewI s w
  have D := fun w k => cTimesOk w.heap.size [a, b] (w.alloc (.cells #[.int .i64 a, .int .i64 b] 2 k)) (by simp) (two_cells w _ k a b)
  have LA := fun w => cLaterI a (-s) w
  have LB := fun w => cLaterI b s w
  have e1 : [a, b].all tmB = (tmB a && tmB b) := by simp [List.all]
  rw [e1] at D
  clear e1
  have eA : widA a b s = if skB s && (tmB a && tmB b) then laterOf a (-s) else -1 := rfl
  have eB : widB a b s = if skB s && (tmB a && tmB b) then laterOf b s else -1 := rfl
  generalize laterOf a (-s) = la at *
  generalize laterOf b s = lb at *
  have hs : skB s = true → IntKind.i64.wrap (-s) = -s := fun h => IntWalk.i64_in _ (by simp [skB] at h; omega)
  generalize (tmB a && tmB b) = T at *
  generalize skB s = K at *
  generalize widA a b s = xa at *
  generalize widB a b s = xb at *
  simp only [List.length_cons, List.length_nil] at D
  cases K
  · simp at eA eB
    subst eA eB
    clear hs
    go_enter Try.func11, Try.ntmps11
    go_wp2_with fail
    refine (C _).mono ?_
    rintro e w1 ⟨rfl, rfl⟩
    go_wp2_with fail
    go_ret2
    exact ⟨rfl, Below.refl _ _⟩
  · have hn := hs rfl
    clear hs
    cases T
    · simp at eA eB
      subst eA eB
      go_enter Try.func11, Try.ntmps11
      go_wp2_with fail
      refine (C _).mono ?_
      rintro e w1 ⟨rfl, rfl⟩
      go_wp2_with fail
      refine (D _ _).mono ?_
      rintro e w1 ⟨rfl, rfl⟩
      go_wp2_with fail
      go_ret2
      exact ⟨rfl, Below.alloc (Below.refl _ _) (Nat.le_refl _) _⟩
    · simp at eA eB
      subst eA eB
      go_enter Try.func11, Try.ntmps11
      go_wp2_with fail
      refine (C _).mono ?_
      rintro e w1 ⟨rfl, rfl⟩
      go_wp2_with fail
      refine (D _ _).mono ?_
      rintro e w1 ⟨rfl, rfl⟩
      go_wp2_with fail
      refine (LA _).mono ?_
      rintro e w1 ⟨rfl, rfl⟩
      go_wp2_with fail
      refine (LB _).mono ?_
      rintro e w1 ⟨rfl, rfl⟩
      go_wp2_with fail
      go_ret2
      exact ⟨rfl, Below.alloc (Below.refl _ _) (Nat.le_refl _) _⟩

theorem cWithinI (a b n s : Int) (w : World) :
    Calls Try.prog 9 #[.int .i64 a, .int .i64 b, .int .i64 n, .int .i64 s] w fun e w' => e = .returned (.bool (witB a b n s)) ∧ Below w.heap.size w w' := by
  have C := fun w => cSkewI s w
  have D := fun w k => cTimesOk w.heap.size [a, b, n] (w.alloc (.cells #[.int .i64 a, .int .i64 b, .int .i64 n] 2 k)) (by simp) (three_cells w _ k a b n)
  have W := fun w => cWidenedI a b s w
  have e1 : [a, b, n].all tmB = (tmB a && (tmB b && tmB n)) := by simp [List.all]
  rw [e1] at D
  clear e1
  have eA : witB a b n s = (skB s && (tmB a && (tmB b && tmB n)) && (decide (widA a b s ≤ n) && decide (n < widB a b s))) := rfl
  generalize widA a b s = xa at *
  generalize widB a b s = xb at *
  generalize (tmB a && (tmB b && tmB n)) = T at *
  generalize skB s = K at *
  generalize witB a b n s = R at *
  simp only [List.length_cons, List.length_nil] at D
  cases K
  · simp at eA
    subst eA
    go_enter Try.func9, Try.ntmps9
    go_wp2_with fail
    refine (C _).mono ?_
    rintro e w1 ⟨rfl, rfl⟩
    go_wp2_with fail
    go_ret
    exact ⟨rfl, Below.refl _ _⟩
  · cases T
    · simp at eA
      subst eA
      go_enter Try.func9, Try.ntmps9
      go_wp2_with fail
      refine (C _).mono ?_
      rintro e w1 ⟨rfl, rfl⟩
      go_wp2_with fail
      refine (D _ _).mono ?_
      rintro e w1 ⟨rfl, rfl⟩
      go_wp2_with fail
      go_ret
      exact ⟨rfl, Below.alloc (Below.refl _ _) (Nat.le_refl _) _⟩
    · simp only [Bool.true_and] at eA
      have HA := hidM eA
      clear eA
      go_enter Try.func9, Try.ntmps9
      go_wp2_with fail
      refine (C _).mono ?_
      rintro e w1 ⟨rfl, rfl⟩
      go_wp2_with fail
      refine (D _ _).mono ?_
      rintro e w1 ⟨rfl, rfl⟩
      go_wp2_with fail
      refine (W _).mono ?_
      rintro e w2 ⟨rfl, hb⟩
      have HB := hidM (bt (Below.alloc (Below.refl _ _) (Nat.le_refl _) _) hb)
      clear hb
      go_wp2
      all_goals go_ret
      all_goals exact ⟨by rw [HA.out]; congr 2; simp_all; try omega, HB.out⟩

theorem cPastI (b n s : Int) (w : World) :
    Calls Try.prog 10 #[.int .i64 b, .int .i64 n, .int .i64 s] w fun e w' => e = .returned (.bool (pasB b n s)) ∧ Below w.heap.size w w' := by
  have C := fun w => cSkewI s w
  have D := fun w k => cTimesOk w.heap.size [b, n] (w.alloc (.cells #[.int .i64 b, .int .i64 n] 2 k)) (by simp) (two_cells w _ k b n)
  have W := fun w => cWidenedI b b s w
  have e1 : [b, n].all tmB = (tmB b && tmB n) := by simp [List.all]
  rw [e1] at D
  clear e1
  have eA : pasB b n s = (skB s && (tmB b && tmB n) && decide (widB b b s ≤ n)) := rfl
  generalize widA b b s = xa at *
  generalize widB b b s = xb at *
  generalize (tmB b && tmB n) = T at *
  generalize skB s = K at *
  generalize pasB b n s = R at *
  simp only [List.length_cons, List.length_nil] at D
  cases K
  · simp at eA
    subst eA
    go_enter Try.func10, Try.ntmps10
    go_wp2_with fail
    refine (C _).mono ?_
    rintro e w1 ⟨rfl, rfl⟩
    go_wp2_with fail
    go_ret
    exact ⟨rfl, Below.refl _ _⟩
  · cases T
    · simp at eA
      subst eA
      go_enter Try.func10, Try.ntmps10
      go_wp2_with fail
      refine (C _).mono ?_
      rintro e w1 ⟨rfl, rfl⟩
      go_wp2_with fail
      refine (D _ _).mono ?_
      rintro e w1 ⟨rfl, rfl⟩
      go_wp2_with fail
      go_ret
      exact ⟨rfl, Below.alloc (Below.refl _ _) (Nat.le_refl _) _⟩
    · simp only [Bool.true_and] at eA
      have HA := hidM eA
      clear eA
      go_enter Try.func10, Try.ntmps10
      go_wp2_with fail
      refine (C _).mono ?_
      rintro e w1 ⟨rfl, rfl⟩
      go_wp2_with fail
      refine (D _ _).mono ?_
      rintro e w1 ⟨rfl, rfl⟩
      go_wp2_with fail
      refine (W _).mono ?_
      rintro e w2 ⟨rfl, hb⟩
      have HB := hidM (bt (Below.alloc (Below.refl _ _) (Nat.le_refl _) _) hb)
      clear hb
      go_wp2
      all_goals go_ret
      all_goals exact ⟨by rw [HA.out]; rfl, HB.out⟩

theorem later_nn (t d : Int) (h : tmB t = true) (h0 : -86400 ≤ d) (h1 : d ≤ 86400) : 0 ≤ laterOf t d ∧ laterOf t d ≤ 3155759999 := by
  have h' : 0 ≤ t ∧ t ≤ 3155759999 := of_decide_eq_true h
  unfold laterOf
  rw [if_pos ⟨h', by omega, by omega⟩]
  repeat' split
  all_goals omega

theorem cWidenedS (a b s : Int) (w : World) :
    Calls Try.prog 13 #[.int .i64 a, .int .i64 b, .int .i64 s] w fun e w' => e = .returned (.tuple #[.int .i64 (widA a b s), .int .i64 (widB a b s)]) ∧ w' = w := by
  have A0 := fun w => cTimeS a w
  have B0 := fun w => cTimeS b w
  have C := fun w => cSkewS s w
  have LA := fun w (h : skB s = true ∧ tmB a = true) => cL3Later a (-s) w (of_decide_eq_true h.2).1 (of_decide_eq_true h.2).2 (by have := of_decide_eq_true h.1; omega) (by have := of_decide_eq_true h.1; omega)
  have LB := fun w (h : skB s = true ∧ tmB b = true) => cL3Later b s w (of_decide_eq_true h.2).1 (of_decide_eq_true h.2).2 (by have := of_decide_eq_true h.1; omega) (by have := of_decide_eq_true h.1; omega)
  have eA : widA a b s = if skB s && (tmB a && tmB b) then laterOf a (-s) else -1 := rfl
  have eB : widB a b s = if skB s && (tmB a && tmB b) then laterOf b s else -1 := rfl
  have e1 : ∀ x, decide (0 ≤ x ∧ x ≤ 3155759999) = tmB x := fun _ => rfl
  rw [e1] at A0 B0
  clear e1
  generalize laterOf a (-s) = la at *
  generalize laterOf b s = lb at *
  have hs : skB s = true → IntKind.i64.wrap (-s) = -s := fun h => IntWalk.i64_in _ (by simp [skB] at h; omega)
  generalize tmB a = TA at *
  generalize tmB b = TB at *
  generalize skB s = K at *
  generalize widA a b s = xa at *
  generalize widB a b s = xb at *
  cases TA
  · simp at eA eB
    subst eA eB
    clear hs LA LB
    go_enter Try.func13, Try.ntmps13
    go_wp2_with fail
    refine (A0 _).mono ?_
    rintro e w1 ⟨rfl, rfl⟩
    go_wp2_with fail
    go_ret2
    exact ⟨rfl, rfl⟩
  · cases TB
    · simp at eA eB
      subst eA eB
      clear hs LA LB
      go_enter Try.func13, Try.ntmps13
      go_wp2_with fail
      refine (A0 _).mono ?_
      rintro e w1 ⟨rfl, rfl⟩
      go_wp2_with fail
      refine (B0 _).mono ?_
      rintro e w1 ⟨rfl, rfl⟩
      go_wp2_with fail
      go_ret2
      exact ⟨rfl, rfl⟩
    · cases K
      · simp at eA eB
        subst eA eB
        clear hs LA LB
        go_enter Try.func13, Try.ntmps13
        go_wp2_with fail
        refine (A0 _).mono ?_
        rintro e w1 ⟨rfl, rfl⟩
        go_wp2_with fail
        refine (B0 _).mono ?_
        rintro e w1 ⟨rfl, rfl⟩
        go_wp2_with fail
        refine (C _).mono ?_
        rintro e w1 ⟨rfl, rfl⟩
        go_wp2_with fail
        go_ret2
        exact ⟨rfl, rfl⟩
      · simp at eA eB
        subst eA eB
        have hn := hs rfl
        clear hs
        replace LA := fun w => LA w ⟨rfl, rfl⟩
        replace LB := fun w => LB w ⟨rfl, rfl⟩
        go_enter Try.func13, Try.ntmps13
        go_wp2_with fail
        refine (A0 _).mono ?_
        rintro e w1 ⟨rfl, rfl⟩
        go_wp2_with fail
        refine (B0 _).mono ?_
        rintro e w1 ⟨rfl, rfl⟩
        go_wp2_with fail
        refine (C _).mono ?_
        rintro e w1 ⟨rfl, rfl⟩
        go_wp2_with fail
        refine (LA _).mono ?_
        rintro e w1 ⟨rfl, rfl⟩
        go_wp2_with fail
        refine (LB _).mono ?_
        rintro e w1 ⟨rfl, rfl⟩
        go_wp2_with fail
        go_ret2
        exact ⟨rfl, rfl⟩

theorem wid_nn (a b s : Int) : (0 ≤ widA a b s ↔ (skB s && (tmB a && tmB b)) = true) ∧ (0 ≤ widB a b s ↔ (skB s && (tmB a && tmB b)) = true) := by
  unfold widA widB
  cases h : (skB s && (tmB a && tmB b))
  · simp
  · simp only [Bool.and_eq_true] at h
    have hs := of_decide_eq_true h.1
    have := later_nn a (-s) h.2.1 (by omega) (by omega)
    have := later_nn b s h.2.2 (by omega) (by omega)
    simp
    omega

theorem wit_is (a b n s : Int) : witB a b n s = (decide (0 ≤ widA a b s) && tmB n && decide (widA a b s ≤ n) && decide (n < widB a b s)) := by
  have h := (wid_nn a b s).1
  have e : decide (0 ≤ widA a b s) = (skB s && (tmB a && tmB b)) := by
    cases h' : (skB s && (tmB a && tmB b)) <;> simp [h, h']
  rw [e]
  unfold witB
  cases skB s <;> cases tmB a <;> cases tmB b <;> cases tmB n <;> simp

theorem pas_is (b n s : Int) : pasB b n s = (decide (0 ≤ widB 0 b s) && tmB n && decide (widB 0 b s ≤ n)) := by
  have h := (wid_nn 0 b s).2
  have e : decide (0 ≤ widB 0 b s) = (skB s && (tmB 0 && tmB b)) := by
    cases h' : (skB s && (tmB 0 && tmB b)) <;> simp [h, h']
  have e0 : tmB 0 = true := by decide
  rw [e, e0]
  unfold pasB widB
  rw [e0]
  cases skB s <;> cases tmB b <;> cases tmB n <;> simp

theorem cWithinS (a b n s : Int) (w : World) :
    Calls Try.prog 14 #[.int .i64 a, .int .i64 b, .int .i64 n, .int .i64 s] w fun e w' => e = .returned (.bool (witB a b n s)) ∧ w' = w := by
  have W := fun w => cWidenedS a b s w
  have T := fun w => cTimeS n w
  have e1 : decide (0 ≤ n ∧ n ≤ 3155759999) = tmB n := rfl
  rw [e1] at T
  clear e1
  rw [wit_is]
  generalize widA a b s = xa at *
  generalize widB a b s = xb at *
  generalize tmB n = K at *
  generalize h0 : decide (0 ≤ xa) = K0
  cases K0
  · go_enter Try.func14, Try.ntmps14
    go_wp2_with fail
    refine (W _).mono ?_
    rintro e w1 ⟨rfl, rfl⟩
    go_wp2_with fail
    go_ret
    exact ⟨by simp, rfl⟩
  · cases K
    · go_enter Try.func14, Try.ntmps14
      go_wp2_with fail
      refine (W _).mono ?_
      rintro e w1 ⟨rfl, rfl⟩
      go_wp2_with fail
      refine (T _).mono ?_
      rintro e w1 ⟨rfl, rfl⟩
      go_wp2_with fail
      go_ret
      exact ⟨by simp, rfl⟩
    · go_enter Try.func14, Try.ntmps14
      go_wp2_with fail
      refine (W _).mono ?_
      rintro e w1 ⟨rfl, rfl⟩
      go_wp2_with fail
      refine (T _).mono ?_
      rintro e w1 ⟨rfl, rfl⟩
      go_wp2
      all_goals go_ret
      all_goals exact ⟨by congr 2; simp_all; try omega, rfl⟩

theorem cPastS (b n s : Int) (w : World) :
    Calls Try.prog 15 #[.int .i64 b, .int .i64 n, .int .i64 s] w fun e w' => e = .returned (.bool (pasB b n s)) ∧ w' = w := by
  have W := fun w => cWidenedS 0 b s w
  have T := fun w => cTimeS n w
  have e1 : decide (0 ≤ n ∧ n ≤ 3155759999) = tmB n := rfl
  rw [e1] at T
  clear e1
  rw [pas_is]
  generalize widA 0 b s = xa at *
  generalize widB 0 b s = xb at *
  generalize tmB n = K at *
  generalize h0 : decide (0 ≤ xb) = K0
  cases K0
  · go_enter Try.func15, Try.ntmps15
    go_wp2_with fail
    refine (W _).mono ?_
    rintro e w1 ⟨rfl, rfl⟩
    go_wp2_with fail
    go_ret
    exact ⟨by simp, rfl⟩
  · cases K
    · go_enter Try.func15, Try.ntmps15
      go_wp2_with fail
      refine (W _).mono ?_
      rintro e w1 ⟨rfl, rfl⟩
      go_wp2_with fail
      refine (T _).mono ?_
      rintro e w1 ⟨rfl, rfl⟩
      go_wp2_with fail
      go_ret
      exact ⟨by simp, rfl⟩
    · go_enter Try.func15, Try.ntmps15
      go_wp2_with fail
      refine (W _).mono ?_
      rintro e w1 ⟨rfl, rfl⟩
      go_wp2_with fail
      refine (T _).mono ?_
      rintro e w1 ⟨rfl, rfl⟩
      go_wp2
      all_goals go_ret
      all_goals exact ⟨by simp, rfl⟩

end Go.Proofs.Ytebngmnfkjmaiaa
