/- Contracts of the draws of a great number below another; the bytes that a draw is made of. -/
import Derived.Test.YtnddphmcagcdiaaRows
import Derived.Test.YtnddphmcagcdiaaKit
import Derived.Test.YtnddphmcagcdiaaDraw
import Derived.OpenShut
import Derived.WalkKit
namespace Go.Proofs.Ytnddphmcagcdiaa
open Go.RowKit
set_option linter.unusedVariables false
set_option linter.unusedSimpArgs false

theorem code_of {w : World} {a : Option Addr} {len cap : Nat} {zs : List Int}
    (h : (a = none ∧ len = 0 ∧ cap = 0 ∧ zs = []) ∨ ∃ x, a = some x ∧ len ≤ cap ∧ cap ≤ maxLen ∧ zs.length = cap ∧ (∀ i, i < zs.length → w.cell? (x.add i) = some (.int .u8 (zs.getD i 0))) ∧ ∀ n ∈ zs, (Lit.int .u8 n).wf = true) : CodeRow w a len := by
  rcases h with ⟨_, h, _⟩ | ⟨x, rfl, hl, _, hz, hc, _⟩
  · exact .inl h
  · by_cases h0 : len = 0
    · exact .inl h0
    · obtain ⟨cb, co, rfl, hcells⟩ := ints_at hc (by omega)
      refine .inr ⟨cb, co, fun j => zs.getD j 0, rfl, ?_, fun j hj => hcells j (by omega)⟩
      have h1 := hcells 0 (by omega)
      rcases Nat.lt_or_ge cb w.heap.size with h' | h'
      · exact h'
      · simp [World.cell?, Array.getElem?_eq_none h'] at h1

theorem code_below {w w2 : World} {a : Option Addr} {len : Nat} (h : CodeRow w a len) (hb : Below w.heap.size w w2) : CodeRow w2 a len := by
  rcases h with h | ⟨cb, co, z, h1, h2, h3⟩
  · exact .inl h
  · exact .inr ⟨cb, co, z, h1, Nat.lt_of_lt_of_le h2 hb.size, fun j hj => (hb.cell (p := ⟨cb, co + j, none⟩) h2).trans (h3 j hj)⟩

theorem bt {w a b : World} (h : Below w.heap.size w a) (k : Below a.heap.size a b) : Below w.heap.size w b := h.trans (k.mono h.size)

theorem cBig_no (a : Option Addr) (len cap : Nat) (w : World) (h : len ≤ 4096) : Calls Try.prog 5 #[.slice a len cap] w fun e w' => e = .returned (.bool false) ∧ w' = w := by
  have h1 : decide ((4096 : Int) < (len : Int)) = false := by simp; omega
  go_enter Try.func5, Try.ntmps5
  go_wp2
  go_ret
  exact ⟨rfl, rfl⟩

theorem cBig_yes (a : Option Addr) (len cap : Nat) (w : World) (h : ¬ len ≤ 4096) : Calls Try.prog 5 #[.slice a len cap] w fun e w' => e = .returned (.bool true) ∧ w' = w := by
  have h1 : decide ((4096 : Int) < (len : Int)) = true := by simp; omega
  go_enter Try.func5, Try.ntmps5
  go_wp2
  go_ret
  exact ⟨rfl, rfl⟩

theorem four_wrap (x y z u : Int) (hx : 0 ≤ x ∧ x ≤ 255) (hy : 0 ≤ y ∧ y ≤ 255) (hz : 0 ≤ z ∧ z ≤ 255) (hu : 0 ≤ u ∧ u ≤ 255) :
    IntKind.i64.wrap (x * 16777216) = x * 16777216 ∧ IntKind.i64.wrap (y * 65536) = y * 65536 ∧ IntKind.i64.wrap (x * 16777216 + y * 65536) = x * 16777216 + y * 65536 ∧ IntKind.i64.wrap (z * 256) = z * 256
    ∧ IntKind.i64.wrap (x * 16777216 + y * 65536 + z * 256) = x * 16777216 + y * 65536 + z * 256 ∧ IntKind.i64.wrap (x * 16777216 + y * 65536 + z * 256 + u) = x * 16777216 + y * 65536 + z * 256 + u := by
  refine ⟨?_, ?_, ?_, ?_, ?_, ?_⟩ <;> exact IntWalk.i64_in _ (by omega)

theorem mod_nat (s : Int) (n : Nat) (h0 : 0 ≤ s) (hn : 1 ≤ n) : s.tmod (n : Int) = ((s.toNat % n : Nat) : Int) ∧ s % (n : Int) = ((s.toNat % n : Nat) : Int) := by
  obtain ⟨k, rfl⟩ : ∃ k : Nat, s = k := ⟨s.toNat, by omega⟩
  refine ⟨?_, ?_⟩
  · rw [Int.tmod_eq_emod_of_nonneg h0]; simp
  · simp

set_option maxHeartbeats 2000000 in
/-- A number below n, which is greater than 256. -/
theorem cBelowBig (n : Nat) (w0 : World) (a : Option Addr) (len cap b : Nat) (w : World) (hlen : len ≤ 4096) (hcr : CodeRow w0 a len) (hC : Cur w0 a len cap b w) (hn0 : 257 ≤ n) (hn1 : n ≤ 4294967296) :
    Calls Try.prog 21 #[.pointer (some ⟨b, 0, none⟩), .int .i64 n] w fun e w' => ∃ x : Nat, e = .returned (.int .i64 x) ∧ x < n ∧ Cur w0 a len cap b w' ∧ w.grownBy w' (some b) := by
  have HR : Hid (CodeRow w0 a len) := hcr
  have HC : Hid (Cur w0 a len cap b w) := hC
  clear hC hcr
  have hz : ¬ (n : Int) = 0 := by omega
  have d1 : decide ((n : Int) ≤ 0) = false := by simp; omega
  have d2 : decide ((n : Int) ≤ 256) = false := by simp; omega
  go_enter Try.func21, Try.ntmps21
  go_wp2_with fail
  refine (cByte w0 a len cap b _ hlen HR.out HC.out).mono ?_
  rintro e w1 ⟨x, rfl, hx0, hx1, hC1, hg1⟩
  have HC1 : Hid (Cur w0 a len cap b w1) := hC1
  have HG : Hid (w.grownBy w1 (some b)) := hg1
  clear hC1 hg1
  go_wp2_with fail
  refine (cByte w0 a len cap b _ hlen HR.out HC1.out).mono ?_
  rintro e w2 ⟨y, rfl, hy0, hy1, hC2, hg2⟩
  have HC2 : Hid (Cur w0 a len cap b w2) := hC2
  have HG2 : Hid (w.grownBy w2 (some b)) := gtrans HG.out hg2
  clear hC2 hg2
  go_wp2_with fail
  refine (cByte w0 a len cap b _ hlen HR.out HC2.out).mono ?_
  rintro e w3 ⟨z, rfl, hz0, hz1, hC3, hg3⟩
  have HC3 : Hid (Cur w0 a len cap b w3) := hC3
  have HG3 : Hid (w.grownBy w3 (some b)) := gtrans HG2.out hg3
  clear hC3 hg3
  go_wp2_with fail
  refine (cByte w0 a len cap b _ hlen HR.out HC3.out).mono ?_
  rintro e w4 ⟨u, rfl, hu0, hu1, hC4, hg4⟩
  have HC4 : Hid (Cur w0 a len cap b w4) := hC4
  have HG4 : Hid (w.grownBy w4 (some b)) := gtrans HG3.out hg4
  clear hC4 hg4
  obtain ⟨k1, k2, k3, k4, k5, k6⟩ := four_wrap x y z u ⟨hx0, hx1⟩ ⟨hy0, hy1⟩ ⟨hz0, hz1⟩ ⟨hu0, hu1⟩
  obtain ⟨s, hs⟩ : ∃ s : Int, x * 16777216 + y * 65536 + z * 256 + u = s := ⟨_, rfl⟩
  have hs0 : 0 ≤ s := by omega
  rw [hs] at k6
  obtain ⟨m1, m2⟩ := mod_nat s n hs0 (by omega)
  have hlt : s.toNat % n < n := Nat.mod_lt _ (by omega)
  obtain ⟨r, hr⟩ : ∃ r : Nat, s.toNat % n = r := ⟨_, rfl⟩
  rw [hr] at m1 m2 hlt
  clear hx0 hx1 hy0 hy1 hz0 hz1 hu0 hu1 hr
  go_wp2_with fail
  go_ret
  refine ⟨r, ?_, hlt, HC4.out, HG4.out⟩
  first | rfl | (rw [← m2]; rfl) | (rw [← m1]; rfl) | simp [m1, m2]

end Go.Proofs.Ytnddphmcagcdiaa
