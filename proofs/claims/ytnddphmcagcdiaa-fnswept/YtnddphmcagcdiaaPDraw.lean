/- Contracts of the draws of numbers and a modulus, and of a number picked by the law. -/
import Derived.Test.YtnddphmcagcdiaaHDraw
import Derived.Deep.RegionWith
namespace Go.Proofs.Ytnddphmcagcdiaa
open Go.RowKit
set_option linter.unusedVariables false
set_option linter.unusedSimpArgs false

theorem hide5 {p : Prop} (h : p) : Hid p := h

/-- The bytes that a draw is made of, each from 0 to 255. -/
def CodeB (w : World) (a : Option Addr) (len : Nat) : Prop :=
  len = 0 ∨ ∃ cb co, ∃ z : Nat → Int, a = some ⟨cb, co, none⟩ ∧ cb < w.heap.size ∧ ∀ j, j < len → w.cell? ⟨cb, co + j, none⟩ = some (.int .u8 (z j)) ∧ 0 ≤ z j ∧ z j ≤ 255

theorem CodeB.row {w : World} {a : Option Addr} {len : Nat} (h : CodeB w a len) : CodeRow w a len := by
  rcases h with h | ⟨cb, co, z, h1, h2, h3⟩
  · exact .inl h
  · exact .inr ⟨cb, co, z, h1, h2, fun j hj => (h3 j hj).1⟩

theorem CodeB.below {w w2 : World} {a : Option Addr} {len : Nat} (h : CodeB w a len) (hb : Below w.heap.size w w2) : CodeB w2 a len := by
  rcases h with h | ⟨cb, co, z, h1, h2, h3⟩
  · exact .inl h
  · exact .inr ⟨cb, co, z, h1, Nat.lt_of_lt_of_le h2 hb.size, fun j hj => ⟨(hb.cell (p := ⟨cb, co + j, none⟩) h2).trans (h3 j hj).1, (h3 j hj).2⟩⟩

theorem codeB_of {w : World} {a : Option Addr} {len cap : Nat} {zs : List Int}
    (h : (a = none ∧ len = 0 ∧ cap = 0 ∧ zs = []) ∨ ∃ x, a = some x ∧ len ≤ cap ∧ cap ≤ maxLen ∧ zs.length = cap ∧ (∀ i, i < zs.length → w.cell? (x.add i) = some (.int .u8 (zs.getD i 0))) ∧ ∀ n ∈ zs, (Lit.int .u8 n).wf = true) : CodeB w a len := by
  rcases h with ⟨_, h, _⟩ | ⟨x, rfl, hl, _, hz, hc, hwf⟩
  · exact .inl h
  · by_cases h0 : len = 0
    · exact .inl h0
    · obtain ⟨cb, co, rfl, hcells⟩ := ints_at hc (by omega)
      refine .inr ⟨cb, co, fun j => zs.getD j 0, rfl, ?_, fun j hj => ⟨hcells j (by omega), ?_⟩⟩
      · have h1 := hcells 0 (by omega)
        rcases Nat.lt_or_ge cb w.heap.size with h' | h'
        · exact h'
        · simp [World.cell?, Array.getElem?_eq_none h'] at h1
      · have h1 : zs.getD j 0 ∈ zs := by
          rw [List.getD, List.getElem?_eq_getElem (by omega)]
          exact List.getElem_mem _
        have := hwf _ h1
        simp only [Lit.wf, Bool.and_eq_true, decide_eq_true_eq] at this
        have h2 : IntKind.u8.min = 0 := rfl
        have h3 : IntKind.u8.max = 255 := rfl
        rw [h2, h3] at this
        exact this

set_option maxHeartbeats 2000000 in
theorem cPick (s m : Nat) (a : Option Addr) (len cap : Nat) (w : World) (hs : s ≤ 10) (hm0 : 1 ≤ m) (hm1 : m ≤ 10000000) (hlen : len ≤ 4096) (hcr : CodeB w a len) :
    Calls Try.prog 12 #[.slice a len cap, .int .i64 s, .int .i64 m] w fun e w' => ∃ x : Nat, e = .returned (.int .i64 x) ∧ x < m ∧ w' = w := by
  have HR := hide5 hcr
  clear hcr
  have hmz : ¬ (m : Int) = 0 := by omega
  go_enter Try.func12, Try.ntmps12
  go_wp2
  go_loop [7, 8] (fun k i => ∃ (j : Nat) (x : Int), i = .int .i64 (j : Int) ∧ j ≤ len ∧ k = .int .i64 x ∧ 0 ≤ x ∧ x < 1000003) (fun _ i => len - (intOf i).toNat)
  case atStart => exact ⟨0, _, rfl, Nat.zero_le _, rfl, by omega, by omega⟩
  case round =>
    obtain ⟨j, x, rfl, hj, rfl, h0, h1⟩ := hrel
    by_cases hlt : j < len
    · obtain ⟨cb, co, z, rfl, hcb, hz⟩ : ∃ cb co, ∃ z : Nat → Int, a = some ⟨cb, co, none⟩ ∧ cb < w.heap.size ∧ ∀ j, j < len → w.cell? ⟨cb, co + j, none⟩ = some (.int .u8 (z j)) ∧ 0 ≤ z j ∧ z j ≤ 255 := by
        rcases HR.out with h | h
        · omega
        · exact h
      obtain ⟨hcell, hz0, hz1⟩ := hz j hlt
      clear hz
      generalize z j = Z at *
      go_wp2_with fail
      go_round
      case rel => exact ⟨j + 1, (x * 233 + Z + (s : Int)) % 1000003, by go_num, by omega, rfl, by omega, by omega⟩
      case measure => simp [intOf]; omega
    · go_wp2_with fail
      go_ret
      have e : x % (m : Int) = ((x.toNat % m : Nat) : Int) := by
        have : x = (x.toNat : Int) := by omega
        rw [this]; simp
      exact ⟨x.toNat % m, by rw [← e]; rfl, Nat.mod_lt _ (by omega), rfl⟩

theorem cBelowAny (n : Nat) (w0 : World) (a : Option Addr) (len cap b : Nat) (w : World) (hlen : len ≤ 4096) (hcr : CodeRow w0 a len) (hC : Cur w0 a len cap b w) (hn0 : 1 ≤ n) (hn1 : n ≤ 4294967296) :
    Calls Try.prog 21 #[.pointer (some ⟨b, 0, none⟩), .int .i64 n] w fun e w' => ∃ x : Nat, e = .returned (.int .i64 x) ∧ x < n ∧ Cur w0 a len cap b w' ∧ w.grownBy w' (some b) := by
  rcases Nat.lt_or_ge n 257 with h | h
  · exact cBelow n w0 a len cap b w hlen hcr hC hn0 (by omega)
  · exact cBelowBig n w0 a len cap b w hlen hcr hC h hn1

abbrev modsObj : Obj := .cells #[.int .i64 2, .int .i64 3, .int .i64 12, .int .i64 97, .int .i64 65521, .int .i64 2621429689, .int .i64 3000000000, .int .i64 3000000001, .int .i64 1] 2 (0, 0)

theorem mods_at (w : World) (B x : Nat) (hx : x < 9) (h : w.heap[B]? = some modsObj) : ∃ n : Nat, w.cell? ⟨B, x, none⟩ = some (.int .i64 n) ∧ 1 ≤ n ∧ n ≤ 3000000001 := by
  rw [Lib.cell_of_heap h]
  rcases (show x = 0 ∨ x = 1 ∨ x = 2 ∨ x = 3 ∨ x = 4 ∨ x = 5 ∨ x = 6 ∨ x = 7 ∨ x = 8 from by omega) with rfl | rfl | rfl | rfl | rfl | rfl | rfl | rfl | rfl
  · exact ⟨2, rfl, by decide, by decide⟩
  · exact ⟨3, rfl, by decide, by decide⟩
  · exact ⟨12, rfl, by decide, by decide⟩
  · exact ⟨97, rfl, by decide, by decide⟩
  · exact ⟨65521, rfl, by decide, by decide⟩
  · exact ⟨2621429689, rfl, by decide, by decide⟩
  · exact ⟨3000000000, rfl, by decide, by decide⟩
  · exact ⟨3000000001, rfl, by decide, by decide⟩
  · exact ⟨1, rfl, by decide, by decide⟩

abbrev oddsObj (n : Int) : Obj := .cells #[.int .i64 (-1), .int .i64 n, .int .i64 4611686018427387904] 2 (0, 0)

theorem odds_at (n : Int) (w : World) (B x : Nat) (hx : x < 3) (h : w.heap[B]? = some (oddsObj n)) : ∃ y : Int, w.cell? ⟨B, x, none⟩ = some (.int .i64 y) := by
  rw [Lib.cell_of_heap h]
  rcases (show x = 0 ∨ x = 1 ∨ x = 2 from by omega) with rfl | rfl | rfl
  · exact ⟨-1, rfl⟩
  · exact ⟨n, rfl⟩
  · exact ⟨4611686018427387904, rfl⟩

abbrev expsObj : Obj := .cells #[.int .i64 0, .int .i64 1, .int .i64 2, .int .i64 (-1), .int .i64 4611686018427387904] 2 (0, 0)

theorem exps_at (w : World) (B x : Nat) (hx : x < 5) (h : w.heap[B]? = some expsObj) : ∃ y : Int, w.cell? ⟨B, x, none⟩ = some (.int .i64 y) ∧ y ≤ 4611686018427387904 := by
  rw [Lib.cell_of_heap h]
  rcases (show x = 0 ∨ x = 1 ∨ x = 2 ∨ x = 3 ∨ x = 4 from by omega) with rfl | rfl | rfl | rfl | rfl
  · exact ⟨0, rfl, by decide⟩
  · exact ⟨1, rfl, by decide⟩
  · exact ⟨2, rfl, by decide⟩
  · exact ⟨-1, rfl, by decide⟩
  · exact ⟨4611686018427387904, rfl, by decide⟩

end Go.Proofs.Ytnddphmcagcdiaa
