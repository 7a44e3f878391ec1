/- Contracts of Times, of the program and of the specification: one answer. -/
import Derived.Test.YtfglgadmcgkjkabPFace
import Derived.IntWalk
namespace Go.Proofs.Ytfglgadmcgkjkab
open Go.RowKit
set_option linter.unusedVariables false
set_option linter.unusedSimpArgs false

/-- n is a modulus, and a one of its rests. -/
def restOk (a n : Int) : Prop := (2 ≤ n ∧ n ≤ 3000000000) ∧ 0 ≤ a ∧ a < n

def timesOf (a b n : Nat) : Nat := a * b % n

theorem prod_facts (a b n : Nat) (hn : n ≤ 3000000000) (ha : a < n) (hb : b < n) : ∃ P : Nat, a * b = P ∧ wrap64 ((a : Int) * (b : Int)) = (P : Int) ∧ IntKind.i64.wrap ((a : Int) * (b : Int)) = (P : Int) ∧ (P : Int).tmod (n : Int) = ((timesOf a b n : Nat) : Int) := by
  have h1 : a * b ≤ 2999999999 * 2999999999 := Nat.mul_le_mul (by omega) (by omega)
  refine ⟨a * b, rfl, ?_, ?_, ?_⟩
  · have e : (a : Int) * (b : Int) = ((a * b : Nat) : Int) := by simp
    rw [e]
    exact IntWalk.wrap64_in _ (by omega)
  · have e : (a : Int) * (b : Int) = ((a * b : Nat) : Int) := by simp
    rw [e]
    exact IntWalk.i64_in _ (by omega)
  · exact (Int.ofNat_tmod (a * b) n).symm

theorem timesOf_lt (a b n : Nat) (hn : 0 < n) : timesOf a b n < n := Nat.mod_lt _ hn

/-- What Times answers. -/
noncomputable def timesI (a b n : Int) : Int := open Classical in if restOk a n ∧ restOk b n then (timesOf a.toNat b.toNat n.toNat : Nat) else -1

theorem timesI_ok {a b n : Int} (h : restOk a n) (k : restOk b n) : timesI a b n = (timesOf a.toNat b.toNat n.toNat : Nat) := by
  unfold timesI
  rw [if_pos ⟨h, k⟩]

theorem timesI_no1 {a b n : Int} (h : ¬ restOk a n) : timesI a b n = -1 := by
  unfold timesI
  rw [if_neg (fun x => h x.1)]

theorem timesI_no2 {a b n : Int} (h : ¬ restOk b n) : timesI a b n = -1 := by
  unfold timesI
  rw [if_neg (fun x => h x.2)]

/-- A number in a box of its own. -/
abbrev box (w : World) (x : Int) : World := w.alloc (.cells #[.int .i64 x] 2)

theorem box_cell (w : World) (x : Int) : (box w x).cell? ⟨w.heap.size, 0, none⟩ = some (.int .i64 x) := by simp [go_sem]

theorem box_below (w : World) (x : Int) : Below w.heap.size w (box w x) := (Below.refl _ w).alloc (Nat.le_refl _) _

theorem below2 {w a b : World} (h : Below w.heap.size w a) (k : Below a.heap.size a b) : Below w.heap.size w b := h.trans (k.mono h.size)

theorem boxes3 (w : World) (a b n : Int) :
    (box (box (box (box w a) b) n) 0).cell? ⟨w.heap.size, 0, none⟩ = some (.int .i64 a) ∧ (box (box (box (box w a) b) n) 0).cell? ⟨w.heap.size + 1, 0, none⟩ = some (.int .i64 b)
    ∧ (box (box (box (box w a) b) n) 0).cell? ⟨w.heap.size + 2, 0, none⟩ = some (.int .i64 n) ∧ Below w.heap.size w (box (box (box w a) b) n) := by
  have s1 : (box w a).heap.size = w.heap.size + 1 := by simp
  have s2 : (box (box w a) b).heap.size = w.heap.size + 2 := by simp
  have s3 : (box (box (box w a) b) n).heap.size = w.heap.size + 3 := by simp
  have b1 := box_below w a
  have b2 := box_below (box w a) b
  have b3 := box_below (box (box w a) b) n
  have b4 := box_below (box (box (box w a) b) n) 0
  refine ⟨?_, ?_, ?_, below2 (below2 b1 b2) b3⟩
  · rw [b4.cell (p := ⟨w.heap.size, 0, none⟩) (by rw [s3]; simp), b3.cell (p := ⟨w.heap.size, 0, none⟩) (by rw [s2]; simp), b2.cell (p := ⟨w.heap.size, 0, none⟩) (by rw [s1]; simp)]
    exact box_cell w a
  · rw [b4.cell (p := ⟨w.heap.size + 1, 0, none⟩) (by rw [s3]; simp), b3.cell (p := ⟨w.heap.size + 1, 0, none⟩) (by rw [s2]; simp), ← s1]
    exact box_cell _ b
  · rw [b4.cell (p := ⟨w.heap.size + 2, 0, none⟩) (by rw [s3]; simp), ← s2]
    exact box_cell _ n

theorem cIn5 (x lo hi : Int) (w : World) :
    Calls Try.prog 8 #[.int .i64 x, .int .i64 lo, .int .i64 hi] w fun e w' => e = .returned (.bool (decide (lo ≤ x ∧ x ≤ hi))) ∧ w' = w := by
  go_enter Try.func8, Try.ntmps8
  go_wp2
  all_goals go_ret
  all_goals exact ⟨by congr 2; simp; try omega, rfl⟩

end Go.Proofs.Ytfglgadmcgkjkab
