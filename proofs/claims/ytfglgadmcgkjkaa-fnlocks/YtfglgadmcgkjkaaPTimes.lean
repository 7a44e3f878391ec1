/- Contracts of Times, of the program and of the specification: one answer. -/
import Derived.Test.YtfglgadmcgkjkaaPFace
import Derived.IntWalk
namespace Go.Proofs.Ytfglgadmcgkjkaa
open Go.RowKit
set_option linter.unusedVariables false
set_option linter.unusedSimpArgs false

/-- n is a modulus, and a one of its rests. -/
def restOk (a n : Int) : Prop := (2 ≤ n ∧ n ≤ 3000000000) ∧ 0 ≤ a ∧ a < n

def timesOf (a b n : Nat) : Nat := a * b % n

theorem cNeedRest_ok (a n y : Int) (w : World) (h : restOk a n) : Calls Try.prog 53 #[.int .i64 a, .int .i64 n, .int .i64 y] w fun e w' => e = .returned (.tuple #[]) ∧ w' = w := by
  obtain ⟨⟨h1, h2⟩, h3, h4⟩ := h
  go_enter Try.func53, Try.ntmps53
  go_wp2_with fail
  refine (cNeed_ok _ _).mono ?_
  rintro e w' ⟨rfl, rfl⟩
  go_wp2_with fail
  refine (cNeed_ok _ _).mono ?_
  rintro e w' ⟨rfl, rfl⟩
  go_wp2_with fail
  go_end0
  exact ⟨rfl, rfl⟩

theorem cNeedRest_no (a n y : Int) (w : World) (h : ¬ restOk a n) : Calls Try.prog 53 #[.int .i64 a, .int .i64 n, .int .i64 y] w fun e w' => e = refusal y ∧ w' = w := by
  by_cases h1 : 2 ≤ n
  · by_cases h2 : n ≤ 3000000000
    · by_cases h3 : 0 ≤ a
      · have h4 : ¬ a < n := fun x => h ⟨⟨h1, h2⟩, h3, x⟩
        have h5 : decide (a < n) = false := decide_eq_false h4
        clear h
        go_enter Try.func53, Try.ntmps53
        go_wp2_with fail
        refine (cNeed_ok _ _).mono ?_
        rintro e w' ⟨rfl, rfl⟩
        go_wp2_with fail
        refine (cNeed_no _ _).mono ?_
        rintro e w' ⟨rfl, rfl⟩
        exact ⟨rfl, rfl, rfl⟩
      · clear h
        go_enter Try.func53, Try.ntmps53
        go_wp2_with fail
        refine (cNeed_ok _ _).mono ?_
        rintro e w' ⟨rfl, rfl⟩
        go_wp2_with fail
        refine (cNeed_no _ _).mono ?_
        rintro e w' ⟨rfl, rfl⟩
        exact ⟨rfl, rfl, rfl⟩
    · clear h
      go_enter Try.func53, Try.ntmps53
      go_wp2_with fail
      refine (cNeed_no _ _).mono ?_
      rintro e w' ⟨rfl, rfl⟩
      exact ⟨rfl, rfl, rfl⟩
  · clear h
    go_enter Try.func53, Try.ntmps53
    go_wp2_with fail
    refine (cNeed_no _ _).mono ?_
    rintro e w' ⟨rfl, rfl⟩
    exact ⟨rfl, rfl, rfl⟩

theorem prod_facts (a b n : Nat) (hn : n ≤ 3000000000) (ha : a < n) (hb : b < n) : ∃ P : Nat, a * b = P ∧ wrap64 ((a : Int) * (b : Int)) = (P : Int) ∧ IntKind.i64.wrap ((a : Int) * (b : Int)) = (P : Int) ∧ (P : Int).tmod (n : Int) = ((timesOf a b n : Nat) : Int) := by
  have h1 : a * b ≤ 2999999999 * 2999999999 := Nat.mul_le_mul (by omega) (by omega)
  refine ⟨a * b, rfl, ?_, ?_, ?_⟩
  · have e : (a : Int) * (b : Int) = ((a * b : Nat) : Int) := by simp
    rw [e]
    exact IntWalk.wrap64_in _ (by omega)
  · have e : (a : Int) * (b : Int) = ((a * b : Nat) : Int) := by simp
    rw [e]
    exact IntWalk.i64_in _ (by omega)
  · exact (Int.ofNat_tmod (a * b) n).symm

theorem timesOf_lt (a b n : Nat) (hn : 0 < n) : timesOf a b n < n := Nat.mod_lt _ hn

theorem cProduct (a b n : Nat) (w : World) (h0 : 2 ≤ n) (hn : n ≤ 3000000000) (ha : a < n) (hb : b < n) :
    Calls Try.prog 64 #[.int .i64 a, .int .i64 b, .int .i64 n] w fun e w' => e = .returned (.int .i64 (timesOf a b n : Nat)) ∧ w' = w := by
  obtain ⟨P, hP, e1, e2, e3⟩ := prod_facts a b n hn ha hb
  obtain ⟨R, hR⟩ : ∃ R : Nat, timesOf a b n = R := ⟨_, rfl⟩
  have hRn : R < n := hR ▸ timesOf_lt a b n (by omega)
  rw [hR] at e3 ⊢
  have e4 : wrap64 (R : Int) = (R : Int) := IntWalk.wrap64_in _ (by omega)
  have hz : ¬ (n : Int) = 0 := by omega
  clear hP hR
  go_enter Try.func64, Try.ntmps64
  go_wp2
  go_ret
  exact ⟨rfl, rfl⟩

/-- What Times answers. -/
noncomputable def timesI (a b n : Int) : Int := open Classical in if restOk a n ∧ restOk b n then (timesOf a.toNat b.toNat n.toNat : Nat) else -1

theorem timesI_ok {a b n : Int} (h : restOk a n) (k : restOk b n) : timesI a b n = (timesOf a.toNat b.toNat n.toNat : Nat) := by
  unfold timesI
  rw [if_pos ⟨h, k⟩]

theorem timesI_no1 {a b n : Int} (h : ¬ restOk a n) : timesI a b n = -1 := by
  unfold timesI
  rw [if_neg (fun x => h x.1)]

theorem timesI_no2 {a b n : Int} (h : ¬ restOk b n) : timesI a b n = -1 := by
  unfold timesI
  rw [if_neg (fun x => h x.2)]

/-- A number in a box of its own. -/
abbrev box (w : World) (x : Int) : World := w.alloc (.cells #[.int .i64 x] 2)

theorem box_cell (w : World) (x : Int) : (box w x).cell? ⟨w.heap.size, 0, none⟩ = some (.int .i64 x) := by simp [go_sem]

theorem box_below (w : World) (x : Int) : Below w.heap.size w (box w x) := (Below.refl _ w).alloc (Nat.le_refl _) _

theorem below2 {w a b : World} (h : Below w.heap.size w a) (k : Below a.heap.size a b) : Below w.heap.size w b := h.trans (k.mono h.size)

theorem boxes3 (w : World) (a b n : Int) :
    (box (box (box (box w a) b) n) 0).cell? ⟨w.heap.size, 0, none⟩ = some (.int .i64 a) ∧ (box (box (box (box w a) b) n) 0).cell? ⟨w.heap.size + 1, 0, none⟩ = some (.int .i64 b)
    ∧ (box (box (box (box w a) b) n) 0).cell? ⟨w.heap.size + 2, 0, none⟩ = some (.int .i64 n) ∧ Below w.heap.size w (box (box (box w a) b) n) := by
  have s1 : (box w a).heap.size = w.heap.size + 1 := by simp
  have s2 : (box (box w a) b).heap.size = w.heap.size + 2 := by simp
  have s3 : (box (box (box w a) b) n).heap.size = w.heap.size + 3 := by simp
  have b1 := box_below w a
  have b2 := box_below (box w a) b
  have b3 := box_below (box (box w a) b) n
  have b4 := box_below (box (box (box w a) b) n) 0
  refine ⟨?_, ?_, ?_, below2 (below2 b1 b2) b3⟩
  · rw [b4.cell (p := ⟨w.heap.size, 0, none⟩) (by rw [s3]; simp), b3.cell (p := ⟨w.heap.size, 0, none⟩) (by rw [s2]; simp), b2.cell (p := ⟨w.heap.size, 0, none⟩) (by rw [s1]; simp)]
    exact box_cell w a
  · rw [b4.cell (p := ⟨w.heap.size + 1, 0, none⟩) (by rw [s3]; simp), b3.cell (p := ⟨w.heap.size + 1, 0, none⟩) (by rw [s2]; simp), ← s1]
    exact box_cell _ b
  · rw [b4.cell (p := ⟨w.heap.size + 2, 0, none⟩) (by rw [s3]; simp), ← s2]
    exact box_cell _ n

theorem cIn5 (x lo hi : Int) (w : World) :
    Calls Try.prog 41 #[.int .i64 x, .int .i64 lo, .int .i64 hi] w fun e w' => e = .returned (.bool (decide (lo ≤ x ∧ x ≤ hi))) ∧ w' = w := by
  go_enter Try.func41, Try.ntmps41
  go_wp2
  all_goals go_ret
  all_goals exact ⟨by congr 2; simp; try omega, rfl⟩

theorem cMod (n : Int) (w : World) :
    Calls Try.prog 46 #[.int .i64 n] w fun e w' => e = .returned (.bool (decide (2 ≤ n ∧ n ≤ 3000000000))) ∧ w' = w := by
  have C := fun w => cIn5 n 2 3000000000 w
  generalize decide (2 ≤ n ∧ n ≤ 3000000000) = q at *
  go_enter Try.func46, Try.ntmps46
  go_wp2_with fail
  refine (C _).mono ?_
  rintro e w' ⟨rfl, rfl⟩
  go_wp2_with fail
  go_ret
  exact ⟨rfl, rfl⟩

set_option maxHeartbeats 1000000 in
theorem cTimesS (a b n : Int) (w : World) :
    Calls Try.prog 19 #[.int .i64 a, .int .i64 b, .int .i64 n] w fun e w' => e = .returned (.int .i64 (timesI a b n)) ∧ w' = w := by
  have CM := fun w => cMod n w
  by_cases hm : 2 ≤ n ∧ n ≤ 3000000000
  · rw [decide_eq_true hm] at CM
    have e1 : wrap64 (n - 1) = n - 1 := IntWalk.wrap64_in _ (by omega)
    have e2 : IntKind.i64.wrap (n - 1) = n - 1 := IntWalk.i64_in _ (by omega)
    have CA := fun w => cIn5 a 0 (n - 1) w
    have CB := fun w => cIn5 b 0 (n - 1) w
    by_cases ha : restOk a n
    · rw [decide_eq_true (show 0 ≤ a ∧ a ≤ n - 1 from ⟨ha.2.1, by have := ha.2.2; omega⟩)] at CA
      by_cases hb : restOk b n
      · rw [decide_eq_true (show 0 ≤ b ∧ b ≤ n - 1 from ⟨hb.2.1, by have := hb.2.2; omega⟩)] at CB
        rw [timesI_ok ha hb]
        obtain ⟨_, a1, a2⟩ := ha
        obtain ⟨_, b1, b2⟩ := hb
        obtain ⟨A, rfl⟩ : ∃ A : Nat, a = A := ⟨a.toNat, by omega⟩
        obtain ⟨B, rfl⟩ : ∃ B : Nat, b = B := ⟨b.toNat, by omega⟩
        obtain ⟨N, rfl⟩ : ∃ N : Nat, n = N := ⟨n.toNat, by omega⟩
        simp only [Int.toNat_natCast]
        obtain ⟨P, hP, p1, p2, p3⟩ := prod_facts A B N (by omega) (by omega) (by omega)
        have hRn := timesOf_lt A B N (by omega)
        generalize timesOf A B N = R at *
        have e4 : wrap64 (R : Int) = (R : Int) := IntWalk.wrap64_in _ (by omega)
        have hz : ¬ (N : Int) = 0 := by omega
        clear hP
        go_enter Try.func19, Try.ntmps19
        go_wp2_with fail
        refine (CM _).mono ?_
        rintro e w' ⟨rfl, rfl⟩
        go_wp2_with fail
        refine (CA _).mono ?_
        rintro e w' ⟨rfl, rfl⟩
        go_wp2_with fail
        refine (CB _).mono ?_
        rintro e w' ⟨rfl, rfl⟩
        go_wp2_with fail
        go_ret
        exact ⟨rfl, rfl⟩
      · rw [decide_eq_false (show ¬ (0 ≤ b ∧ b ≤ n - 1) from fun x => hb ⟨hm, x.1, by omega⟩)] at CB
        rw [timesI_no2 hb]
        clear ha hb
        go_enter Try.func19, Try.ntmps19
        go_wp2_with fail
        refine (CM _).mono ?_
        rintro e w' ⟨rfl, rfl⟩
        go_wp2_with fail
        refine (CA _).mono ?_
        rintro e w' ⟨rfl, rfl⟩
        go_wp2_with fail
        refine (CB _).mono ?_
        rintro e w' ⟨rfl, rfl⟩
        go_wp2_with fail
        go_ret
        exact ⟨rfl, rfl⟩
    · rw [decide_eq_false (show ¬ (0 ≤ a ∧ a ≤ n - 1) from fun x => ha ⟨hm, x.1, by omega⟩)] at CA
      rw [timesI_no1 ha]
      clear ha
      go_enter Try.func19, Try.ntmps19
      go_wp2_with fail
      refine (CM _).mono ?_
      rintro e w' ⟨rfl, rfl⟩
      go_wp2_with fail
      refine (CA _).mono ?_
      rintro e w' ⟨rfl, rfl⟩
      go_wp2_with fail
      go_ret
      exact ⟨rfl, rfl⟩
  · rw [decide_eq_false hm] at CM
    rw [timesI_no1 (fun x => hm x.1)]
    go_enter Try.func19, Try.ntmps19
    go_wp2_with fail
    refine (CM _).mono ?_
    rintro e w' ⟨rfl, rfl⟩
    go_wp2_with fail
    go_ret
    exact ⟨rfl, rfl⟩

end Go.Proofs.Ytfglgadmcgkjkaa
