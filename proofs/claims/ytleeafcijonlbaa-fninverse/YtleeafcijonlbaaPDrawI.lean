/- Contracts of the draws for inverses, for what goes into both, and for primes. -/
import Derived.Test.YtleeafcijonlbaaPDraw
namespace Go.Proofs.Ytleeafcijonlbaa
open Go.RowKit
set_option linter.unusedVariables false
set_option linter.unusedSimpArgs false

theorem cDrawInverse (a : Option Addr) (len cap : Nat) (w : World) (hlen : len ≤ 4096) (hcr : CodeRow w a len) :
    Calls Try.prog 16 #[.slice a len cap] w fun e w' => ∃ x n : Int, e = .returned (.tuple #[.int .i64 x, .int .i64 n]) ∧ Below w.heap.size w w' := by
  have HR := hide5 hcr
  clear hcr
  go_enter Try.func16, Try.ntmps16
  go_wp2_with fail
  refine (cNew a len cap _ hlen HR.out).mono ?_
  rintro e w1 ⟨rfl, hC1⟩
  have HC1 := hide5 hC1
  clear hC1
  go_wp2_with fail
  refine (cL5Draw w a len cap _ _ hlen HR.out HC1.out).mono ?_
  rintro e w2 ⟨x, y, n, rfl, hy, hC2⟩
  have HC2 := hide5 hC2
  clear hC2
  go_wp2_with fail
  go_ret2
  exact ⟨x, n, rfl, HC2.out.2.1⟩

abbrev gcdsObj : Obj := .cells #[.int .i64 0, .int .i64 1, .int .i64 12, .int .i64 18, .int .i64 97, .int .i64 3000000000, .int .i64 3000000001, .int .i64 (-1)] 2 (0, 0)

theorem gcds_at (w : World) (B x : Nat) (hx : x < 8) (h : w.heap[B]? = some gcdsObj) : ∃ y : Int, w.cell? ⟨B, x, none⟩ = some (.int .i64 y) := by
  rw [Lib.cell_of_heap h]
  rcases (show x = 0 ∨ x = 1 ∨ x = 2 ∨ x = 3 ∨ x = 4 ∨ x = 5 ∨ x = 6 ∨ x = 7 from by omega) with rfl | rfl | rfl | rfl | rfl | rfl | rfl | rfl
  all_goals exact ⟨_, rfl⟩

set_option maxHeartbeats 2000000 in
theorem cDrawGcd (a : Option Addr) (len cap : Nat) (w : World) (hlen : len ≤ 4096) (hcr : CodeRow w a len) :
    Calls Try.prog 18 #[.slice a len cap] w fun e w' => ∃ x y : Int, e = .returned (.tuple #[.int .i64 x, .int .i64 y]) ∧ Below w.heap.size w w' := by
  have HR := hide5 hcr
  clear hcr
  go_enter Try.func18, Try.ntmps18
  go_wp2_with fail
  refine (cNew a len cap _ hlen HR.out).mono ?_
  rintro e w1 ⟨rfl, hC1⟩
  have HC1 := hide5 hC1
  have hbl : w.heap.size < w1.heap.size := hC1.lt
  clear hC1
  have HN := hide5 (heap_alloc_new w1 gcdsObj)
  go_wp2_with fail
  refine (cBelow 8 w a len cap _ _ hlen HR.out (HC1.out.alloc _) (by decide) (by decide)).mono ?_
  rintro e w2 ⟨x, rfl, hx, hC2, hG2⟩
  obtain ⟨v, hv⟩ := gcds_at w2 w1.heap.size x hx ((hG2.block w1.heap.size (by simp) (by simp; omega)).trans HN.out)
  have hxi : (x : Int) < 8 := by omega
  have HC2 := hide5 hC2
  clear hC2 hG2 hbl HN
  go_wp2_with fail
  refine (cBelowAny 300 w a len cap _ _ hlen HR.out HC2.out (by decide) (by decide)).mono ?_
  rintro e w3 ⟨y, rfl, hy, hC3, _⟩
  have HC3 := hide5 hC3
  clear hC3 hv
  go_wp2_with fail
  go_ret2
  exact ⟨v, y, rfl, HC3.out.2.1⟩

abbrev prsObj : Obj := .cells #[.int .i64 0, .int .i64 1, .int .i64 2, .int .i64 4, .int .i64 97, .int .i64 65521, .int .i64 65535, .int .i64 65536, .int .i64 65537, .int .i64 (-7)] 2 (0, 0)

def prs (x : Nat) : Int := [0, 1, 2, 4, 97, 65521, 65535, 65536, 65537, -7].getD x 0

theorem prs_at (w : World) (B x : Nat) (hx : x < 10) (h : w.heap[B]? = some prsObj) : w.cell? ⟨B, x, none⟩ = some (.int .i64 (prs x)) := by
  rw [Lib.cell_of_heap h]
  rcases (show x = 0 ∨ x = 1 ∨ x = 2 ∨ x = 3 ∨ x = 4 ∨ x = 5 ∨ x = 6 ∨ x = 7 ∨ x = 8 ∨ x = 9 from by omega) with rfl | rfl | rfl | rfl | rfl | rfl | rfl | rfl | rfl | rfl
  all_goals rfl

theorem prs_bounds (x : Nat) (hx : x < 10) : -7 ≤ prs x ∧ prs x ≤ 65537 := by
  rcases (show x = 0 ∨ x = 1 ∨ x = 2 ∨ x = 3 ∨ x = 4 ∨ x = 5 ∨ x = 6 ∨ x = 7 ∨ x = 8 ∨ x = 9 from by omega) with rfl | rfl | rfl | rfl | rfl | rfl | rfl | rfl | rfl | rfl
  all_goals decide

theorem cell_grown (w w1 : World) (b B x : Nat) (v : Value) (g : w.grownBy w1 (some b)) (hne : ¬ B = b) (h : w.cell? ⟨B, x, none⟩ = some v) : w1.cell? ⟨B, x, none⟩ = some v := by
  have hlt : B < w.heap.size := by
    rcases Nat.lt_or_ge B w.heap.size with h' | h'
    · exact h'
    · simp [World.cell?, Array.getElem?_eq_none h'] at h
  have e := g.block B hlt (fun h => hne (Option.some.inj h))
  have e2 : w1.cell? ⟨B, x, none⟩ = w.cell? ⟨B, x, none⟩ := by simp [World.cell?, e]
  exact e2.trans h

set_option maxHeartbeats 4000000 in
theorem cDrawPrime (a : Option Addr) (len cap : Nat) (w : World) (hlen : len ≤ 4096) (hcr : CodeRow w a len) :
    Calls Try.prog 20 #[.slice a len cap] w fun e w' => ∃ x : Int, e = .returned (.int .i64 x) ∧ Below w.heap.size w w' := by
  have HR := hide5 hcr
  clear hcr
  go_enter Try.func20, Try.ntmps20
  go_wp2_with fail
  refine (cNew a len cap _ hlen HR.out).mono ?_
  rintro e w1 ⟨rfl, hC1⟩
  have HC1 := hide5 hC1
  have hbl : w.heap.size < w1.heap.size := hC1.lt
  have HNE := hide5 (show ¬ w1.heap.size = w.heap.size by omega)
  clear hC1
  go_wp2_with fail
  go_region_with (go_at_call 32; first
    | (refine (cBelow 4 w a len cap _ _ hlen HR.out HC2.out (by decide) (by decide)).mono ?_; rintro e w3 ⟨y, rfl, hy, hC3, hG3⟩; have hk := fun (v : Value) (h : w2.cell? ⟨w1.heap.size, x, none⟩ = some v) => cell_grown w2 w3 _ w1.heap.size x v hG3 HNE.out h; have hcell3 := hk _ hcell; have HC3 := hide5 hC3; clear hC3 hG3 hk)
    | (refine (cBelow 4 w a len cap _ _ hlen HR.out HC2.out (by decide) (by decide)).mono ?_; rintro e w3 ⟨y, rfl, hy, hC3, hG3⟩; have HC3 := hide5 hC3; clear hC3 hG3)
    | (refine (cBelow 4 w a len cap _ _ hlen HR.out (HC2.out.alloc prsObj) (by decide) (by decide)).mono ?_; rintro e w3 ⟨y, rfl, hy, hC3, hG3⟩; have hcell3 := cell_grown (w2.alloc prsObj) w3 _ w2.heap.size x _ hG3 (by have := HC2.out.lt; omega) (hcell w2); have HC3 := hide5 hC3; clear hC3 hG3)
    | (refine (cBelow 10 w a len cap _ _ hlen HR.out ((HC1.out.alloc prsObj).drewN 1) (by decide) (by decide)).mono ?_; rintro e w2 ⟨x, rfl, hx, hC2, hG2⟩; have hcell := prs_at w2 w1.heap.size x hx ((hG2.block w1.heap.size (by show w1.heap.size < (w1.alloc prsObj).heap.size; simp) (fun h => HNE.out (Option.some.inj h))).trans (heap_alloc_new w1 _)); have hxi : (x : Int) < 10 := (by omega); have HC2 := hide5 hC2; clear hC2 hG2)
    | (refine (cBelow 10 w a len cap _ _ hlen HR.out (HC1.out.drewN 1) (by decide) (by decide)).mono ?_; rintro e w2 ⟨x, rfl, hx, hC2, hG2⟩; have hcell := fun W : World => prs_at (W.alloc prsObj) W.heap.size x hx (heap_alloc_new W _); have hxi : (x : Int) < 10 := (by omega); have HC2 := hide5 hC2; clear hC2 hG2))
  all_goals
    go_wp2_with fail
    go_ret
    exact ⟨_, rfl, by first | exact HC3.out.2.1 | exact (HC3.out.alloc _).2.1⟩

end Go.Proofs.Ytleeafcijonlbaa
