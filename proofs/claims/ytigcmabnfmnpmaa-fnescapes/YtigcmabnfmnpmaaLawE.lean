/- The law on escapes, walked. -/
import Derived.Test.YtigcmabnfmnpmaaRows
import Derived.Test.YtigcmabnfmnpmaaMathE
import Derived.Test.YtigcmabnfmnpmaaEscaped
import Derived.Test.YtigcmabnfmnpmaaUnesc
import Derived.Test.YtigcmabnfmnpmaaSUnesc
import Derived.Test.YtigcmabnfmnpmaaText
import Derived.OpenShut
import Derived.WalkKit
namespace Go.Proofs.Ytigcmabnfmnpmaa
open Go.RowKit
set_option linter.unusedVariables false
set_option linter.unusedSimpArgs false

theorem code_of {w : World} {a : Option Addr} {len cap : Nat} {zs : List Int}
    (h : (a = none ∧ len = 0 ∧ cap = 0 ∧ zs = []) ∨ ∃ x, a = some x ∧ len ≤ cap ∧ cap ≤ maxLen ∧ zs.length = cap ∧ (∀ i, i < zs.length → w.cell? (x.add i) = some (.int .u8 (zs.getD i 0))) ∧ ∀ n ∈ zs, (Lit.int .u8 n).wf = true) : CodeRow w a len := by
  rcases h with ⟨_, h, _⟩ | ⟨x, rfl, hl, _, hz, hc, _⟩
  · exact .inl h
  · by_cases h0 : len = 0
    · exact .inl h0
    · obtain ⟨cb, co, rfl, hcells⟩ := ints_at hc (by omega)
      refine .inr ⟨cb, co, fun j => zs.getD j 0, rfl, ?_, fun j hj => hcells j (by omega)⟩
      have h1 := hcells 0 (by omega)
      rcases Nat.lt_or_ge cb w.heap.size with h' | h'
      · exact h'
      · simp [World.cell?, Array.getElem?_eq_none h'] at h1

theorem c7_no (a : Option Addr) (len cap : Nat) (w : World) (h : len ≤ 4096) : Calls Try.prog 7 #[.slice a len cap] w fun e w' => e = .returned (.bool false) ∧ w' = w := by
  have h1 : decide ((4096 : Int) < (len : Int)) = false := by simp; omega
  go_enter Try.func7, Try.ntmps7
  go_wp2
  go_ret
  exact ⟨rfl, rfl⟩

theorem c7_yes (a : Option Addr) (len cap : Nat) (w : World) (h : ¬ len ≤ 4096) : Calls Try.prog 7 #[.slice a len cap] w fun e w' => e = .returned (.bool true) ∧ w' = w := by
  have h1 : decide ((4096 : Int) < (len : Int)) = true := by simp; omega
  go_enter Try.func7, Try.ntmps7
  go_wp2
  go_ret
  exact ⟨rfl, rfl⟩

theorem size_mk (l : List UInt8) : (⟨l.toArray⟩ : ByteArray).size = l.length := by
  have := sz ⟨l.toArray⟩
  rw [this]

set_option maxHeartbeats 2000000 in
theorem c8d (a : Option Addr) (len cap : Nat) (w : World) (hlen : len ≤ 4096) (hcr : CodeRow w a len) :
    Calls Try.prog 8 #[.slice a len cap] w fun e w' => ∃ (t : ByteArray) (q : Bool), e = .returned (.tuple #[.string t, .bool q]) ∧ t.size ≤ 8 ∧ Below w.heap.size w w' := by
  have HR : Hid (CodeRow w a len) := hcr
  clear hcr
  go_enter Try.func8, Try.ntmps8
  go_wp2_with fail
  refine (cNew a len cap _ hlen HR.out).mono ?_
  rintro e w1 ⟨rfl, hC1⟩
  go_wp2_with fail
  refine (cText ⟨#[97, 60, 38, 62, 10, 32, 34]⟩ 8 w a len cap _ _ (by decide) (by decide) (by decide) (by decide) hlen HR.out hC1).mono ?_
  rintro e w2 ⟨t, rfl, ht, hC2, _⟩
  go_wp2_with fail
  refine (cOnce 8 w a len cap _ _ hlen HR.out hC2 (by decide) (by decide)).mono ?_
  rintro e w3 ⟨x3, rfl, hC3, _⟩
  cases x3
  · go_wp2_with fail
    refine (cOnce 2 w a len cap _ _ hlen HR.out hC3 (by decide) (by decide)).mono ?_
    rintro e w4 ⟨x4, rfl, hC4, _⟩
    go_wp2
    go_ret2
    exact ⟨t, x4, rfl, by omega, hC4.2.1⟩
  · go_wp2_with fail
    refine (cBytes 6 w a len cap _ _ (by decide) (by decide) hlen HR.out hC3).mono ?_
    rintro e w4 ⟨t4, rfl, ht4, hC4, _⟩
    go_wp2_with fail
    refine (cOnce 2 w a len cap _ _ hlen HR.out hC4 (by decide) (by decide)).mono ?_
    rintro e w5 ⟨x5, rfl, hC5, _⟩
    go_wp2
    go_ret2
    exact ⟨t4, x5, rfl, by omega, hC5.2.1⟩

theorem escaped_le (q : Bool) (l : List UInt8) : (escapedL q l).length ≤ 6 * l.length := by
  unfold escapedL
  split
  · exact escL_le q l
  · simp

set_option maxHeartbeats 2000000 in
theorem c10d (a : Option Addr) (len cap : Nat) (w : World) (hlen : len ≤ 4096) (hcr : CodeRow w a len) :
    Calls Try.prog 10 #[.slice a len cap] w fun e w' => ∃ t : ByteArray, e = .returned (.string t) ∧ t.size ≤ 38 ∧ Below w.heap.size w w' := by
  have HR : Hid (CodeRow w a len) := hcr
  clear hcr
  go_enter Try.func10, Try.ntmps10
  go_wp2_with fail
  refine (cNew a len cap _ hlen HR.out).mono ?_
  rintro e w1 ⟨rfl, hC1⟩
  go_wp2_with fail
  refine (cText ⟨#[97, 60, 38, 62, 10, 32, 34]⟩ 6 w a len cap _ _ (by decide) (by decide) (by decide) (by decide) hlen HR.out hC1).mono ?_
  rintro e w2 ⟨t, rfl, ht, hC2, _⟩
  go_wp2_with fail
  refine (cOnce 2 w a len cap _ _ hlen HR.out hC2 (by decide) (by decide)).mono ?_
  rintro e w3 ⟨q, rfl, hC3, _⟩
  go_wp2_with fail
  refine (c13 t q _ (by omega)).mono ?_
  rintro e w4 ⟨rfl, hb4⟩
  have hC4 := hC3.below hb4
  have hz : (⟨(escapedL q t.data.toList).toArray⟩ : ByteArray).size ≤ 36 := by
    have h1 := escaped_le q t.data.toList
    rw [size_mk]
    have h2 := sz t
    omega
  obtain ⟨u, hu⟩ : ∃ u : ByteArray, (⟨(escapedL q t.data.toList).toArray⟩ : ByteArray) = u := ⟨_, rfl⟩
  rw [hu] at hz
  rw [hu]
  clear hu
  go_wp2_with fail
  refine (cOnce 2 w a len cap _ _ hlen HR.out hC4 (by decide) (by decide)).mono ?_
  rintro e w5 ⟨x5, rfl, hC5, _⟩
  cases x5
  · go_wp2
    go_ret
    exact ⟨u, rfl, by omega, hC5.2.1⟩
  · go_wp2_with fail
    refine (cBend u ⟨#[38, 59, 108, 97, 103, 116, 109, 112, 60]⟩ w a len cap _ _ (by omega) (by decide) (by decide) hlen HR.out hC5).mono ?_
    rintro e w6 ⟨t6, rfl, ht6, hC6, _⟩
    go_wp2
    go_ret
    exact ⟨t6, rfl, by omega, hC6.2.1⟩

end Go.Proofs.Ytigcmabnfmnpmaa
