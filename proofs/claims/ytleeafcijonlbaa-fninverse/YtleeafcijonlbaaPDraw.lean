/- Contracts of the draws of numbers and a modulus, and of a number picked by the law. -/
import Derived.Test.YtleeafcijonlbaaHDraw
import Derived.Deep.RegionWith
namespace Go.Proofs.Ytleeafcijonlbaa
open Go.RowKit
set_option linter.unusedVariables false
set_option linter.unusedSimpArgs false

theorem hide5 {p : Prop} (h : p) : Hid p := h

/-- The bytes that a draw is made of, each from 0 to 255. -/
def CodeB (w : World) (a : Option Addr) (len : Nat) : Prop :=
  len = 0 ∨ ∃ cb co, ∃ z : Nat → Int, a = some ⟨cb, co, none⟩ ∧ cb < w.heap.size ∧ ∀ j, j < len → w.cell? ⟨cb, co + j, none⟩ = some (.int .u8 (z j)) ∧ 0 ≤ z j ∧ z j ≤ 255

theorem CodeB.row {w : World} {a : Option Addr} {len : Nat} (h : CodeB w a len) : CodeRow w a len := by
  rcases h with h | ⟨cb, co, z, h1, h2, h3⟩
  · exact .inl h
  · exact .inr ⟨cb, co, z, h1, h2, fun j hj => (h3 j hj).1⟩

theorem CodeB.below {w w2 : World} {a : Option Addr} {len : Nat} (h : CodeB w a len) (hb : Below w.heap.size w w2) : CodeB w2 a len := by
  rcases h with h | ⟨cb, co, z, h1, h2, h3⟩
  · exact .inl h
  · exact .inr ⟨cb, co, z, h1, Nat.lt_of_lt_of_le h2 hb.size, fun j hj => ⟨(hb.cell (p := ⟨cb, co + j, none⟩) h2).trans (h3 j hj).1, (h3 j hj).2⟩⟩

theorem codeB_of {w : World} {a : Option Addr} {len cap : Nat} {zs : List Int}
    (h : (a = none ∧ len = 0 ∧ cap = 0 ∧ zs = []) ∨ ∃ x, a = some x ∧ len ≤ cap ∧ cap ≤ maxLen ∧ zs.length = cap ∧ (∀ i, i < zs.length → w.cell? (x.add i) = some (.int .u8 (zs.getD i 0))) ∧ ∀ n ∈ zs, (Lit.int .u8 n).wf = true) : CodeB w a len := by
  rcases h with ⟨_, h, _⟩ | ⟨x, rfl, hl, _, hz, hc, hwf⟩
  · exact .inl h
  · by_cases h0 : len = 0
    · exact .inl h0
    · obtain ⟨cb, co, rfl, hcells⟩ := ints_at hc (by omega)
      refine .inr ⟨cb, co, fun j => zs.getD j 0, rfl, ?_, fun j hj => ⟨hcells j (by omega), ?_⟩⟩
      · have h1 := hcells 0 (by omega)
        rcases Nat.lt_or_ge cb w.heap.size with h' | h'
        · exact h'
        · simp [World.cell?, Array.getElem?_eq_none h'] at h1
      · have h1 : zs.getD j 0 ∈ zs := by
          rw [List.getD, List.getElem?_eq_getElem (by omega)]
          exact List.getElem_mem _
        have := hwf _ h1
        simp only [Lit.wf, Bool.and_eq_true, decide_eq_true_eq] at this
        have h2 : IntKind.u8.min = 0 := rfl
        have h3 : IntKind.u8.max = 255 := rfl
        rw [h2, h3] at this
        exact this

set_option maxHeartbeats 2000000 in
theorem cPick (s m : Nat) (a : Option Addr) (len cap : Nat) (w : World) (hs : s ≤ 10) (hm0 : 1 ≤ m) (hm1 : m ≤ 100000) (hlen : len ≤ 4096) (hcr : CodeB w a len) :
    Calls Try.prog 15 #[.slice a len cap, .int .i64 s, .int .i64 m] w fun e w' => ∃ x : Nat, e = .returned (.int .i64 x) ∧ x < m ∧ w' = w := by
  have HR := hide5 hcr
  clear hcr
  have hmz : ¬ (m : Int) = 0 := by omega
  go_enter Try.func15, Try.ntmps15
  go_wp2
  go_loop [7, 8] (fun k i => ∃ (j : Nat) (x : Int), i = .int .i64 (j : Int) ∧ j ≤ len ∧ k = .int .i64 x ∧ 0 ≤ x ∧ x < 1000003) (fun _ i => len - (intOf i).toNat)
  case atStart => exact ⟨0, _, rfl, Nat.zero_le _, rfl, by omega, by omega⟩
  case round =>
    obtain ⟨j, x, rfl, hj, rfl, h0, h1⟩ := hrel
    by_cases hlt : j < len
    · obtain ⟨cb, co, z, rfl, hcb, hz⟩ : ∃ cb co, ∃ z : Nat → Int, a = some ⟨cb, co, none⟩ ∧ cb < w.heap.size ∧ ∀ j, j < len → w.cell? ⟨cb, co + j, none⟩ = some (.int .u8 (z j)) ∧ 0 ≤ z j ∧ z j ≤ 255 := by
        rcases HR.out with h | h
        · omega
        · exact h
      obtain ⟨hcell, hz0, hz1⟩ := hz j hlt
      clear hz
      generalize z j = Z at *
      go_wp2_with fail
      go_round
      case rel => exact ⟨j + 1, (x * 233 + Z + (s : Int)) % 1000003, by go_num, by omega, rfl, by omega, by omega⟩
      case measure => simp [intOf]; omega
    · go_wp2_with fail
      go_ret
      have e : x % (m : Int) = ((x.toNat % m : Nat) : Int) := by
        have : x = (x.toNat : Int) := by omega
        rw [this]; simp
      exact ⟨x.toNat % m, by rw [← e]; rfl, Nat.mod_lt _ (by omega), rfl⟩

theorem cBelowAny (n : Nat) (w0 : World) (a : Option Addr) (len cap b : Nat) (w : World) (hlen : len ≤ 4096) (hcr : CodeRow w0 a len) (hC : Cur w0 a len cap b w) (hn0 : 1 ≤ n) (hn1 : n ≤ 4294967296) :
    Calls Try.prog 32 #[.pointer (some ⟨b, 0, none⟩), .int .i64 n] w fun e w' => ∃ x : Nat, e = .returned (.int .i64 x) ∧ x < n ∧ Cur w0 a len cap b w' ∧ w.grownBy w' (some b) := by
  rcases Nat.lt_or_ge n 257 with h | h
  · exact cBelow n w0 a len cap b w hlen hcr hC hn0 (by omega)
  · exact cBelowBig n w0 a len cap b w hlen hcr hC h hn1

theorem cMax5 (n : Nat) (w : World) (hn : 1 ≤ n) :
    Calls Try.prog 44 #[.int .i64 1, .int .i64 n] w fun e w' => e = .returned (.int .i64 n) ∧ w' = w := by
  by_cases h : n = 1
  · subst h
    go_enter Try.func44, Try.ntmps44
    go_wp2
    go_ret
    exact ⟨rfl, rfl⟩
  · have h1 : decide ((n : Int) < 1) = false := by simp; omega
    go_enter Try.func44, Try.ntmps44
    go_wp2
    go_ret
    exact ⟨rfl, rfl⟩

abbrev modsObj : Obj := .cells #[.int .i64 2, .int .i64 3, .int .i64 12, .int .i64 97, .int .i64 65521, .int .i64 2621429689, .int .i64 3000000000, .int .i64 3000000001, .int .i64 1] 2 (0, 0)

theorem mods_at (w : World) (B x : Nat) (hx : x < 9) (h : w.heap[B]? = some modsObj) : ∃ n : Nat, w.cell? ⟨B, x, none⟩ = some (.int .i64 n) ∧ 1 ≤ n ∧ n ≤ 3000000001 := by
  rw [Lib.cell_of_heap h]
  rcases (show x = 0 ∨ x = 1 ∨ x = 2 ∨ x = 3 ∨ x = 4 ∨ x = 5 ∨ x = 6 ∨ x = 7 ∨ x = 8 from by omega) with rfl | rfl | rfl | rfl | rfl | rfl | rfl | rfl | rfl
  · exact ⟨2, rfl, by decide, by decide⟩
  · exact ⟨3, rfl, by decide, by decide⟩
  · exact ⟨12, rfl, by decide, by decide⟩
  · exact ⟨97, rfl, by decide, by decide⟩
  · exact ⟨65521, rfl, by decide, by decide⟩
  · exact ⟨2621429689, rfl, by decide, by decide⟩
  · exact ⟨3000000000, rfl, by decide, by decide⟩
  · exact ⟨3000000001, rfl, by decide, by decide⟩
  · exact ⟨1, rfl, by decide, by decide⟩

abbrev oddsObj (n : Int) : Obj := .cells #[.int .i64 (-1), .int .i64 n, .int .i64 4611686018427387904] 2 (0, 0)

theorem odds_at (n : Int) (w : World) (B x : Nat) (hx : x < 3) (h : w.heap[B]? = some (oddsObj n)) : ∃ y : Int, w.cell? ⟨B, x, none⟩ = some (.int .i64 y) := by
  rw [Lib.cell_of_heap h]
  rcases (show x = 0 ∨ x = 1 ∨ x = 2 from by omega) with rfl | rfl | rfl
  · exact ⟨-1, rfl⟩
  · exact ⟨n, rfl⟩
  · exact ⟨4611686018427387904, rfl⟩

set_option maxHeartbeats 4000000 in
theorem cL5Draw (w0 : World) (a : Option Addr) (len cap b : Nat) (w : World) (hlen : len ≤ 4096) (hcr : CodeRow w0 a len) (hC : Cur w0 a len cap b w) :
    Calls Try.prog 26 #[.pointer (some ⟨b, 0, none⟩)] w fun e w' => ∃ (x : Int) (y n : Nat), e = .returned (.tuple #[.int .i64 x, .int .i64 y, .int .i64 n]) ∧ y ≤ 3000000001 ∧ Cur w0 a len cap b w' := by
  have HR := hide5 hcr
  have HC := hide5 hC
  have hbl : b < w.heap.size := hC.lt
  clear hC hcr
  have HN := hide5 (heap_alloc_new w modsObj)
  go_enter Try.func26, Try.ntmps26
  go_wp2_with fail
  refine (cBelow 9 w0 a len cap _ _ hlen HR.out (HC.out.alloc _) (by decide) (by decide)).mono ?_
  rintro e w1 ⟨x, rfl, hx, hC1, hG1⟩
  obtain ⟨n, hn, hn1, hn2⟩ := mods_at w1 w.heap.size x hx ((hG1.block w.heap.size (by simp) (by simp; omega)).trans HN.out)
  have hxi : (x : Int) < 9 := by omega
  have HC1 := hide5 hC1
  clear hC1 hG1 hbl HN
  go_wp2_with fail
  refine (cMax5 n _ hn1).mono ?_
  rintro e w2 ⟨rfl, rfl⟩
  go_wp2_with fail
  refine (cBelowAny n w0 a len cap _ _ hlen HR.out HC1.out hn1 (by omega)).mono ?_
  rintro e w3 ⟨u, rfl, hu, hC3, _⟩
  have HC3 := hide5 hC3
  clear hC3 hn
  go_wp2_with fail
  refine (cMax5 n _ hn1).mono ?_
  rintro e w4 ⟨rfl, rfl⟩
  go_wp2_with fail
  refine (cBelowAny n w0 a len cap _ _ hlen HR.out HC3.out hn1 (by omega)).mono ?_
  rintro e w5 ⟨y, rfl, hy, hC5, _⟩
  have HC5 := hide5 hC5
  clear hC5
  go_wp2_with fail
  refine (cOnce 10 w0 a len cap _ _ hlen HR.out HC5.out (by decide) (by decide)).mono ?_
  rintro e w6 ⟨q, rfl, hC6, _⟩
  have HC6 := hide5 hC6
  have hbl6 : b < w6.heap.size := hC6.lt
  clear hC6
  cases q
  · go_wp2_with fail
    go_ret3
    exact ⟨u, y, n, rfl, by omega, HC6.out⟩
  · have HN6 := hide5 (heap_alloc_new w6 (oddsObj n))
    go_wp2_with fail
    refine (cBelow 3 w0 a len cap _ _ hlen HR.out (HC6.out.alloc _) (by decide) (by decide)).mono ?_
    rintro e w7 ⟨x7, rfl, hx7, hC7, hG7⟩
    obtain ⟨v, hv⟩ := odds_at n w7 w6.heap.size x7 hx7 ((hG7.block w6.heap.size (by simp) (by simp; omega)).trans HN6.out)
    have hxi7 : (x7 : Int) < 3 := by omega
    have HC7 := hide5 hC7
    clear hC7 hG7 hbl6 HN6
    go_wp2_with fail
    go_ret3
    exact ⟨v, y, n, rfl, by omega, HC7.out⟩

theorem cDrawTimes (a : Option Addr) (len cap : Nat) (w : World) (hlen : len ≤ 4096) (hcr : CodeRow w a len) :
    Calls Try.prog 9 #[.slice a len cap] w fun e w' => ∃ (x : Int) (y n : Nat), e = .returned (.tuple #[.int .i64 x, .int .i64 y, .int .i64 n]) ∧ Below w.heap.size w w' := by
  have HR := hide5 hcr
  clear hcr
  go_enter Try.func9, Try.ntmps9
  go_wp2_with fail
  refine (cNew a len cap _ hlen HR.out).mono ?_
  rintro e w1 ⟨rfl, hC1⟩
  have HC1 := hide5 hC1
  clear hC1
  go_wp2_with fail
  refine (cL5Draw w a len cap _ _ hlen HR.out HC1.out).mono ?_
  rintro e w2 ⟨x, y, n, rfl, hy, hC2⟩
  have HC2 := hide5 hC2
  clear hC2
  go_wp2_with fail
  go_ret3
  exact ⟨x, y, n, rfl, HC2.out.2.1⟩

abbrev expsObj : Obj := .cells #[.int .i64 0, .int .i64 1, .int .i64 2, .int .i64 (-1), .int .i64 4611686018427387904] 2 (0, 0)

theorem exps_at (w : World) (B x : Nat) (hx : x < 5) (h : w.heap[B]? = some expsObj) : ∃ y : Int, w.cell? ⟨B, x, none⟩ = some (.int .i64 y) ∧ y ≤ 4611686018427387904 := by
  rw [Lib.cell_of_heap h]
  rcases (show x = 0 ∨ x = 1 ∨ x = 2 ∨ x = 3 ∨ x = 4 from by omega) with rfl | rfl | rfl | rfl | rfl
  · exact ⟨0, rfl, by decide⟩
  · exact ⟨1, rfl, by decide⟩
  · exact ⟨2, rfl, by decide⟩
  · exact ⟨-1, rfl, by decide⟩
  · exact ⟨4611686018427387904, rfl, by decide⟩

set_option maxHeartbeats 2000000 in
theorem cDrawPower (a : Option Addr) (len cap : Nat) (w : World) (hlen : len ≤ 4096) (hcr : CodeRow w a len) :
    Calls Try.prog 11 #[.slice a len cap] w fun e w' => ∃ (x y : Int) (n : Nat), e = .returned (.tuple #[.int .i64 x, .int .i64 y, .int .i64 n]) ∧ y ≤ 4611686018427387904 ∧ Below w.heap.size w w' := by
  have HR := hide5 hcr
  clear hcr
  go_enter Try.func11, Try.ntmps11
  go_wp2_with fail
  refine (cNew a len cap _ hlen HR.out).mono ?_
  rintro e w1 ⟨rfl, hC1⟩
  have HC1 := hide5 hC1
  clear hC1
  go_wp2_with fail
  refine (cL5Draw w a len cap _ _ hlen HR.out HC1.out).mono ?_
  rintro e w2 ⟨x, y, n, rfl, hy, hC2⟩
  have HC2 := hide5 hC2
  clear hC2
  go_wp2_with fail
  refine (cOnce 3 w a len cap _ _ hlen HR.out HC2.out (by decide) (by decide)).mono ?_
  rintro e w3 ⟨q, rfl, hC3, _⟩
  have HC3 := hide5 hC3
  have hbl3 : w.heap.size < w3.heap.size := hC3.lt
  clear hC3
  cases q
  · go_wp2_with fail
    go_ret3
    exact ⟨x, y, n, rfl, by omega, HC3.out.2.1⟩
  · have HN3 := hide5 (heap_alloc_new w3 expsObj)
    go_wp2_with fail
    refine (cBelow 5 w a len cap _ _ hlen HR.out (HC3.out.alloc _) (by decide) (by decide)).mono ?_
    rintro e w4 ⟨x4, rfl, hx4, hC4, hG4⟩
    obtain ⟨v, hv, hv1⟩ := exps_at w4 w3.heap.size x4 hx4 ((hG4.block w3.heap.size (by simp) (by simp; omega)).trans HN3.out)
    have hxi4 : (x4 : Int) < 5 := by omega
    have HC4 := hide5 hC4
    clear hC4 hG4 hbl3 HN3
    go_wp2_with fail
    go_ret3
    exact ⟨x, v, n, rfl, hv1, HC4.out.2.1⟩

end Go.Proofs.Ytleeafcijonlbaa
