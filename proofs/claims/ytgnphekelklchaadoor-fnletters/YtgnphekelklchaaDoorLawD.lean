/- The law on letters: whatever is drawn, it answers true. -/
import Derived.Test.YtgnphekelklchaaDoorDecI
import Derived.Test.YtgnphekelklchaaDoorDecS
import Derived.Test.YtgnphekelklchaaDoorDraw
import Derived.Test.YtgnphekelklchaaDoorBend
import Derived.Test.YtgnphekelklchaaDoorText
import Derived.OpenShut
import Derived.WalkKit
namespace Go.Proofs.YtgnphekelklchaaDoor
open Go.RowKit
set_option linter.unusedVariables false
set_option linter.unusedSimpArgs false

theorem code_of {w : World} {a : Option Addr} {len cap : Nat} {zs : List Int}
    (h : (a = none ∧ len = 0 ∧ cap = 0 ∧ zs = []) ∨ ∃ x, a = some x ∧ len ≤ cap ∧ cap ≤ maxLen ∧ zs.length = cap ∧ (∀ i, i < zs.length → w.cell? (x.add i) = some (.int .u8 (zs.getD i 0))) ∧ ∀ n ∈ zs, (Lit.int .u8 n).wf = true) : CodeRow w a len := by
  rcases h with ⟨_, h, _⟩ | ⟨x, rfl, hl, _, hz, hc, _⟩
  · exact .inl h
  · by_cases h0 : len = 0
    · exact .inl h0
    · obtain ⟨cb, co, rfl, hcells⟩ := ints_at hc (by omega)
      refine .inr ⟨cb, co, fun j => zs.getD j 0, rfl, ?_, fun j hj => hcells j (by omega)⟩
      have h1 := hcells 0 (by omega)
      rcases Nat.lt_or_ge cb w.heap.size with h' | h'
      · exact h'
      · simp [World.cell?, Array.getElem?_eq_none h'] at h1

theorem cBig_no (a : Option Addr) (len cap : Nat) (w : World) (h : len ≤ 4096) : Calls Tryd.prog 5 #[.slice a len cap] w fun e w' => e = .returned (.bool false) ∧ w' = w := by
  have h1 : decide ((4096 : Int) < (len : Int)) = false := by simp; omega
  go_enter Tryd.func5, Tryd.ntmps5
  go_wp2
  go_ret
  exact ⟨rfl, rfl⟩

theorem cBig_yes (a : Option Addr) (len cap : Nat) (w : World) (h : ¬ len ≤ 4096) : Calls Tryd.prog 5 #[.slice a len cap] w fun e w' => e = .returned (.bool true) ∧ w' = w := by
  have h1 : decide ((4096 : Int) < (len : Int)) = true := by simp; omega
  go_enter Tryd.func5, Tryd.ntmps5
  go_wp2
  go_ret
  exact ⟨rfl, rfl⟩

theorem size_mk (l : List UInt8) : (⟨l.toArray⟩ : ByteArray).size = l.length := by
  have := sz ⟨l.toArray⟩
  rw [this]

set_option maxHeartbeats 2000000 in
theorem cToD (a : Option Addr) (len cap : Nat) (w : World) (hlen : len ≤ 4096) (hcr : CodeRow w a len) :
    Calls Tryd.prog 6 #[.slice a len cap] w fun e w' => ∃ t : ByteArray, e = .returned (.string t) ∧ t.size ≤ 8 ∧ Below w.heap.size w w' := by
  have HR : Hid (CodeRow w a len) := hcr
  clear hcr
  go_enter Tryd.func6, Tryd.ntmps6
  go_wp2_with fail
  refine (cNew a len cap _ hlen HR.out).mono ?_
  rintro e w1 ⟨rfl, hC1⟩
  go_wp2_with fail
  refine (cBytes 9 w a len cap _ _ (by decide) (by decide) hlen HR.out hC1).mono ?_
  rintro e w2 ⟨t, rfl, ht, hC2, _⟩
  go_wp2
  go_ret
  exact ⟨t, rfl, by omega, hC2.2.1⟩

set_option maxHeartbeats 2000000 in
theorem cFromD (a : Option Addr) (len cap : Nat) (w : World) (hlen : len ≤ 4096) (hcr : CodeRow w a len) :
    Calls Tryd.prog 8 #[.slice a len cap] w fun e w' => ∃ t : ByteArray, e = .returned (.string t) ∧ t.size ≤ 14 ∧ Below w.heap.size w w' := by
  have HR : Hid (CodeRow w a len) := hcr
  clear hcr
  go_enter Tryd.func8, Tryd.ntmps8
  go_wp2_with fail
  refine (cNew a len cap _ hlen HR.out).mono ?_
  rintro e w1 ⟨rfl, hC1⟩
  go_wp2_with fail
  refine (cBytes 8 w a len cap _ _ (by decide) (by decide) hlen HR.out hC1).mono ?_
  rintro e w2 ⟨t, rfl, ht, hC2, _⟩
  go_wp2_with fail
  refine (cEncS t _ (by omega)).mono ?_
  rintro e w4 ⟨rfl, hb4⟩
  have hC4 := hC2.below hb4
  have hz : (⟨(toL t.data.toList).toArray⟩ : ByteArray).size ≤ 12 := by
    rw [size_mk, toL_len, ← sz t]
    omega
  obtain ⟨x, hx⟩ : ∃ x : ByteArray, (⟨(toL t.data.toList).toArray⟩ : ByteArray) = x := ⟨_, rfl⟩
  rw [hx] at hz ⊢
  clear hx hC2 hC1 hb4
  go_wp2_with fail
  refine (cOnce 2 w a len cap _ _ hlen HR.out hC4 (by decide) (by decide)).mono ?_
  rintro e w5 ⟨q, rfl, hC5, _⟩
  cases q
  · go_wp2
    go_ret
    exact ⟨x, rfl, by omega, hC5.2.1⟩
  · go_wp2_with fail
    refine (cBend x ⟨#[65, 61, 47, 122, 32]⟩ w a len cap _ _ (by omega) (by decide) (by decide) hlen HR.out hC5).mono ?_
    rintro e w6 ⟨u, rfl, hu, hC6, _⟩
    go_wp2
    go_ret
    exact ⟨u, rfl, by omega, hC6.2.1⟩

set_option maxHeartbeats 2000000 in
theorem cFrom66 (w0 : World) (a : Option Addr) (len cap b : Nat) (w : World) (hlen : len ≤ 4096) (hcr : CodeRow w0 a len) (hC : Cur w0 a len cap b w) :
    Calls Tryd.prog 29 #[.pointer (some ⟨b, 0, none⟩), .int .i64 (-1), .int .i64 64] w fun e w' => ∃ n : Int, e = .returned (.int .i64 n) ∧ -1 ≤ n ∧ n ≤ 64 ∧ Cur w0 a len cap b w' := by
  have HR : Hid (CodeRow w0 a len) := hcr
  have HC : Hid (Cur w0 a len cap b w) := hC
  clear hcr hC
  go_enter Tryd.func29, Tryd.ntmps29
  go_wp2_with fail
  refine (cBelow 66 w0 a len cap _ _ hlen HR.out HC.out (by decide) (by decide)).mono ?_
  rintro e w1 ⟨x, rfl, hx, hC1, _⟩
  go_wp2
  go_ret
  exact ⟨_, rfl, by omega, by omega, hC1⟩

set_option maxHeartbeats 2000000 in
theorem cLetD (a : Option Addr) (len cap : Nat) (w : World) (hlen : len ≤ 4096) (hcr : CodeRow w a len) :
    Calls Tryd.prog 10 #[.slice a len cap] w fun e w' => ∃ n : Int, e = .returned (.int .i64 n) ∧ -1 ≤ n ∧ n ≤ 64 ∧ Below w.heap.size w w' := by
  have HR : Hid (CodeRow w a len) := hcr
  clear hcr
  go_enter Tryd.func10, Tryd.ntmps10
  go_wp2_with fail
  refine (cNew a len cap _ hlen HR.out).mono ?_
  rintro e w1 ⟨rfl, hC1⟩
  go_wp2_with fail
  refine (cFrom66 w a len cap _ _ hlen HR.out hC1).mono ?_
  rintro e w2 ⟨n, rfl, h0, h1, hC2⟩
  go_wp2
  go_ret
  exact ⟨n, rfl, h0, h1, hC2.2.1⟩

def fourObj : Obj := .cells #[.string ⟨#[]⟩, .string ⟨#[61]⟩, .string ⟨#[65, 65]⟩, .string ⟨#[45]⟩] 9 (0, 0)

set_option maxHeartbeats 4000000 in
theorem cValD (a : Option Addr) (len cap : Nat) (w : World) (hlen : len ≤ 4096) (hcr : CodeRow w a len) :
    Calls Tryd.prog 11 #[.slice a len cap] w fun e w' => ∃ t : ByteArray, e = .returned (.string t) ∧ t.size ≤ 2 ∧ Below w.heap.size w w' := by
  have HR : Hid (CodeRow w a len) := hcr
  clear hcr
  go_enter Tryd.func11, Tryd.ntmps11
  go_wp2_with fail
  refine (cNew a len cap _ hlen HR.out).mono ?_
  rintro e w1 ⟨rfl, hC1⟩
  go_wp2_with fail
  refine (cOnce 4 w a len cap _ _ hlen HR.out hC1 (by decide) (by decide)).mono ?_
  rintro e w2 ⟨q, rfl, hC2, _⟩
  cases q
  · go_wp2_with fail
    refine (cBelow 64 w a len cap _ _ hlen HR.out hC2 (by decide) (by decide)).mono ?_
    rintro e w3 ⟨x, rfl, hx, hC3, _⟩
    go_wp2_with fail
    refine (cLetS (x : Int) _ (by omega) (by omega)).mono ?_
    rintro e w4 ⟨rfl, rfl⟩
    have hz : (⟨(letOf (x : Int)).toArray⟩ : ByteArray).size ≤ 2 := by
      rw [size_mk]
      unfold letOf
      split <;> simp
    go_wp2
    go_ret
    exact ⟨_, rfl, hz, hC3.2.1⟩
  · have HC2 : Hid (Cur w a len cap w.heap.size w2) := hC2
    clear hC2 hC1
    go_wp2_with fail
    refine (cBelow 4 w a len cap _ _ hlen HR.out (HC2.out.alloc _) (by decide) (by decide)).mono ?_
    rintro e w3 ⟨x, rfl, hx, hC3, hG3⟩
    have hblk : w3.heap[w2.heap.size]? = some fourObj := by
      rw [hG3.block w2.heap.size (by simp) (by have := HC2.out.lt; intro e; have := Option.some.inj e; omega)]
      exact heap_alloc_new _ _
    have m0 : w3.cell? ⟨w2.heap.size, 0, none⟩ = some (.string ⟨#[]⟩) := by rw [Lib.cell_of_heap hblk]; rfl
    have m1 : w3.cell? ⟨w2.heap.size, 1, none⟩ = some (.string ⟨#[61]⟩) := by rw [Lib.cell_of_heap hblk]; rfl
    have m2 : w3.cell? ⟨w2.heap.size, 2, none⟩ = some (.string ⟨#[65, 65]⟩) := by rw [Lib.cell_of_heap hblk]; rfl
    have m3 : w3.cell? ⟨w2.heap.size, 3, none⟩ = some (.string ⟨#[45]⟩) := by rw [Lib.cell_of_heap hblk]; rfl
    clear hblk hG3 HC2
    rcases (show x = 0 ∨ x = 1 ∨ x = 2 ∨ x = 3 by omega) with rfl | rfl | rfl | rfl
    all_goals
      go_wp2
      go_ret
      exact ⟨_, rfl, by decide, hC3.2.1⟩

end Go.Proofs.YtgnphekelklchaaDoor
