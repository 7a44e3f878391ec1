/- Contracts of the draws of a great number below another; the bytes that a draw is made of. Contracts of the draws of numbers and a modulus, and of a number picked by the law. The law FnOrderless: the tree whose attrs are turned round, as it lies in memory. -/
import Derived.Test.YtmghipjpgoghlaaGreatRows
import Derived.Test.YtmghipjpgoghlaaGreatM1
import Derived.Test.YtmghipjpgoghlaaGreatM4
import Derived.Test.YtmghipjpgoghlaaGreatM35
import Derived.OpenShut
import Derived.WalkKit
import Derived.Deep.RegionWith
namespace Go.Proofs.YtmghipjpgoghlaaGreat
open Go.RowKit
set_option linter.unusedVariables false
set_option linter.unusedSimpArgs false

theorem code_of {w : World} {a : Option Addr} {len cap : Nat} {zs : List Int}
    (h : (a = none ∧ len = 0 ∧ cap = 0 ∧ zs = []) ∨ ∃ x, a = some x ∧ len ≤ cap ∧ cap ≤ maxLen ∧ zs.length = cap ∧ (∀ i, i < zs.length → w.cell? (x.add i) = some (.int .u8 (zs.getD i 0))) ∧ ∀ n ∈ zs, (Lit.int .u8 n).wf = true) : CodeRow w a len := by
  rcases h with ⟨_, h, _⟩ | ⟨x, rfl, hl, _, hz, hc, _⟩
  · exact .inl h
  · by_cases h0 : len = 0
    · exact .inl h0
    · obtain ⟨cb, co, rfl, hcells⟩ := ints_at hc (by omega)
      refine .inr ⟨cb, co, fun j => zs.getD j 0, rfl, ?_, fun j hj => hcells j (by omega)⟩
      have h1 := hcells 0 (by omega)
      rcases Nat.lt_or_ge cb w.heap.size with h' | h'
      · exact h'
      · simp [World.cell?, Array.getElem?_eq_none h'] at h1

theorem code_below {w w2 : World} {a : Option Addr} {len : Nat} (h : CodeRow w a len) (hb : Below w.heap.size w w2) : CodeRow w2 a len := by
  rcases h with h | ⟨cb, co, z, h1, h2, h3⟩
  · exact .inl h
  · exact .inr ⟨cb, co, z, h1, Nat.lt_of_lt_of_le h2 hb.size, fun j hj => (hb.cell (p := ⟨cb, co + j, none⟩) h2).trans (h3 j hj)⟩

theorem bt {w a b : World} (h : Below w.heap.size w a) (k : Below a.heap.size a b) : Below w.heap.size w b := h.trans (k.mono h.size)

theorem cBig_no (a : Option Addr) (len cap : Nat) (w : World) (h : len ≤ 4096) : Calls Tryz.prog 9 #[.slice a len cap] w fun e w' => e = .returned (.bool false) ∧ w' = w := by
  have h1 : decide ((4096 : Int) < (len : Int)) = false := by simp; omega
  go_enter Tryz.func9, Tryz.ntmps9
  go_wp2
  go_ret
  exact ⟨rfl, rfl⟩

theorem cBig_yes (a : Option Addr) (len cap : Nat) (w : World) (h : ¬ len ≤ 4096) : Calls Tryz.prog 9 #[.slice a len cap] w fun e w' => e = .returned (.bool true) ∧ w' = w := by
  have h1 : decide ((4096 : Int) < (len : Int)) = true := by simp; omega
  go_enter Tryz.func9, Tryz.ntmps9
  go_wp2
  go_ret
  exact ⟨rfl, rfl⟩

theorem four_wrap (x y z u : Int) (hx : 0 ≤ x ∧ x ≤ 255) (hy : 0 ≤ y ∧ y ≤ 255) (hz : 0 ≤ z ∧ z ≤ 255) (hu : 0 ≤ u ∧ u ≤ 255) :
    IntKind.i64.wrap (x * 16777216) = x * 16777216 ∧ IntKind.i64.wrap (y * 65536) = y * 65536 ∧ IntKind.i64.wrap (x * 16777216 + y * 65536) = x * 16777216 + y * 65536 ∧ IntKind.i64.wrap (z * 256) = z * 256
    ∧ IntKind.i64.wrap (x * 16777216 + y * 65536 + z * 256) = x * 16777216 + y * 65536 + z * 256 ∧ IntKind.i64.wrap (x * 16777216 + y * 65536 + z * 256 + u) = x * 16777216 + y * 65536 + z * 256 + u := by
  refine ⟨?_, ?_, ?_, ?_, ?_, ?_⟩ <;> exact IntWalk.i64_in _ (by omega)

theorem mod_nat (s : Int) (n : Nat) (h0 : 0 ≤ s) (hn : 1 ≤ n) : s.tmod (n : Int) = ((s.toNat % n : Nat) : Int) ∧ s % (n : Int) = ((s.toNat % n : Nat) : Int) := by
  obtain ⟨k, rfl⟩ : ∃ k : Nat, s = k := ⟨s.toNat, by omega⟩
  refine ⟨?_, ?_⟩
  · rw [Int.tmod_eq_emod_of_nonneg h0]; simp
  · simp

set_option maxHeartbeats 2000000 in
/-- A number below n, which is greater than 256. -/
theorem cBelowBig (n : Nat) (w0 : World) (a : Option Addr) (len cap b : Nat) (w : World) (hlen : len ≤ 4096) (hcr : CodeRow w0 a len) (hC : Cur w0 a len cap b w) (hn0 : 257 ≤ n) (hn1 : n ≤ 4294967296) :
    Calls Tryz.prog 61 #[.pointer (some ⟨b, 0, none⟩), .int .i64 n] w fun e w' => ∃ x : Nat, e = .returned (.int .i64 x) ∧ x < n ∧ Cur w0 a len cap b w' ∧ w.grownBy w' (some b) := by
  have HR : Hid (CodeRow w0 a len) := hcr
  have HC : Hid (Cur w0 a len cap b w) := hC
  clear hC hcr
  have hz : ¬ (n : Int) = 0 := by omega
  have d1 : decide ((n : Int) ≤ 0) = false := by simp; omega
  have d2 : decide ((n : Int) ≤ 256) = false := by simp; omega
  go_enter Tryz.func61, Tryz.ntmps61
  go_wp2_with fail
  refine (cByte w0 a len cap b _ hlen HR.out HC.out).mono ?_
  rintro e w1 ⟨x, rfl, hx0, hx1, hC1, hg1⟩
  have HC1 : Hid (Cur w0 a len cap b w1) := hC1
  have HG : Hid (w.grownBy w1 (some b)) := hg1
  clear hC1 hg1
  go_wp2_with fail
  refine (cByte w0 a len cap b _ hlen HR.out HC1.out).mono ?_
  rintro e w2 ⟨y, rfl, hy0, hy1, hC2, hg2⟩
  have HC2 : Hid (Cur w0 a len cap b w2) := hC2
  have HG2 : Hid (w.grownBy w2 (some b)) := gtrans HG.out hg2
  clear hC2 hg2
  go_wp2_with fail
  refine (cByte w0 a len cap b _ hlen HR.out HC2.out).mono ?_
  rintro e w3 ⟨z, rfl, hz0, hz1, hC3, hg3⟩
  have HC3 : Hid (Cur w0 a len cap b w3) := hC3
  have HG3 : Hid (w.grownBy w3 (some b)) := gtrans HG2.out hg3
  clear hC3 hg3
  go_wp2_with fail
  refine (cByte w0 a len cap b _ hlen HR.out HC3.out).mono ?_
  rintro e w4 ⟨u, rfl, hu0, hu1, hC4, hg4⟩
  have HC4 : Hid (Cur w0 a len cap b w4) := hC4
  have HG4 : Hid (w.grownBy w4 (some b)) := gtrans HG3.out hg4
  clear hC4 hg4
  obtain ⟨k1, k2, k3, k4, k5, k6⟩ := four_wrap x y z u ⟨hx0, hx1⟩ ⟨hy0, hy1⟩ ⟨hz0, hz1⟩ ⟨hu0, hu1⟩
  obtain ⟨s, hs⟩ : ∃ s : Int, x * 16777216 + y * 65536 + z * 256 + u = s := ⟨_, rfl⟩
  have hs0 : 0 ≤ s := by omega
  rw [hs] at k6
  obtain ⟨m1, m2⟩ := mod_nat s n hs0 (by omega)
  have hlt : s.toNat % n < n := Nat.mod_lt _ (by omega)
  obtain ⟨r, hr⟩ : ∃ r : Nat, s.toNat % n = r := ⟨_, rfl⟩
  rw [hr] at m1 m2 hlt
  clear hx0 hx1 hy0 hy1 hz0 hz1 hu0 hu1 hr
  go_wp2_with fail
  go_ret
  refine ⟨r, ?_, hlt, HC4.out, HG4.out⟩
  first | rfl | (rw [← m2]; rfl) | (rw [← m1]; rfl) | simp [m1, m2]

end Go.Proofs.YtmghipjpgoghlaaGreat

namespace Go.Proofs.YtmghipjpgoghlaaGreat
open Go.RowKit
set_option linter.unusedVariables false
set_option linter.unusedSimpArgs false

theorem hide5 {p : Prop} (h : p) : Hid p := h

/-- The bytes that a draw is made of, each from 0 to 255. -/
def CodeB (w : World) (a : Option Addr) (len : Nat) : Prop :=
  len = 0 ∨ ∃ cb co, ∃ z : Nat → Int, a = some ⟨cb, co, none⟩ ∧ cb < w.heap.size ∧ ∀ j, j < len → w.cell? ⟨cb, co + j, none⟩ = some (.int .u8 (z j)) ∧ 0 ≤ z j ∧ z j ≤ 255

theorem CodeB.row {w : World} {a : Option Addr} {len : Nat} (h : CodeB w a len) : CodeRow w a len := by
  rcases h with h | ⟨cb, co, z, h1, h2, h3⟩
  · exact .inl h
  · exact .inr ⟨cb, co, z, h1, h2, fun j hj => (h3 j hj).1⟩

theorem CodeB.below {w w2 : World} {a : Option Addr} {len : Nat} (h : CodeB w a len) (hb : Below w.heap.size w w2) : CodeB w2 a len := by
  rcases h with h | ⟨cb, co, z, h1, h2, h3⟩
  · exact .inl h
  · exact .inr ⟨cb, co, z, h1, Nat.lt_of_lt_of_le h2 hb.size, fun j hj => ⟨(hb.cell (p := ⟨cb, co + j, none⟩) h2).trans (h3 j hj).1, (h3 j hj).2⟩⟩

theorem codeB_of {w : World} {a : Option Addr} {len cap : Nat} {zs : List Int}
    (h : (a = none ∧ len = 0 ∧ cap = 0 ∧ zs = []) ∨ ∃ x, a = some x ∧ len ≤ cap ∧ cap ≤ maxLen ∧ zs.length = cap ∧ (∀ i, i < zs.length → w.cell? (x.add i) = some (.int .u8 (zs.getD i 0))) ∧ ∀ n ∈ zs, (Lit.int .u8 n).wf = true) : CodeB w a len := by
  rcases h with ⟨_, h, _⟩ | ⟨x, rfl, hl, _, hz, hc, hwf⟩
  · exact .inl h
  · by_cases h0 : len = 0
    · exact .inl h0
    · obtain ⟨cb, co, rfl, hcells⟩ := ints_at hc (by omega)
      refine .inr ⟨cb, co, fun j => zs.getD j 0, rfl, ?_, fun j hj => ⟨hcells j (by omega), ?_⟩⟩
      · have h1 := hcells 0 (by omega)
        rcases Nat.lt_or_ge cb w.heap.size with h' | h'
        · exact h'
        · simp [World.cell?, Array.getElem?_eq_none h'] at h1
      · have h1 : zs.getD j 0 ∈ zs := by
          rw [List.getD, List.getElem?_eq_getElem (by omega)]
          exact List.getElem_mem _
        have := hwf _ h1
        simp only [Lit.wf, Bool.and_eq_true, decide_eq_true_eq] at this
        have h2 : IntKind.u8.min = 0 := rfl
        have h3 : IntKind.u8.max = 255 := rfl
        rw [h2, h3] at this
        exact this

set_option maxHeartbeats 2000000 in
theorem cPick (s m : Nat) (a : Option Addr) (len cap : Nat) (w : World) (hs : s ≤ 10) (hm0 : 1 ≤ m) (hm1 : m ≤ 10000000) (hlen : len ≤ 4096) (hcr : CodeB w a len) :
    Calls Tryz.prog 23 #[.slice a len cap, .int .i64 s, .int .i64 m] w fun e w' => ∃ x : Nat, e = .returned (.int .i64 x) ∧ x < m ∧ w' = w := by
  have HR := hide5 hcr
  clear hcr
  have hmz : ¬ (m : Int) = 0 := by omega
  go_enter Tryz.func23, Tryz.ntmps23
  go_wp2
  go_loop [7, 8] (fun k i => ∃ (j : Nat) (x : Int), i = .int .i64 (j : Int) ∧ j ≤ len ∧ k = .int .i64 x ∧ 0 ≤ x ∧ x < 1000003) (fun _ i => len - (intOf i).toNat)
  case atStart => exact ⟨0, _, rfl, Nat.zero_le _, rfl, by omega, by omega⟩
  case round =>
    obtain ⟨j, x, rfl, hj, rfl, h0, h1⟩ := hrel
    by_cases hlt : j < len
    · obtain ⟨cb, co, z, rfl, hcb, hz⟩ : ∃ cb co, ∃ z : Nat → Int, a = some ⟨cb, co, none⟩ ∧ cb < w.heap.size ∧ ∀ j, j < len → w.cell? ⟨cb, co + j, none⟩ = some (.int .u8 (z j)) ∧ 0 ≤ z j ∧ z j ≤ 255 := by
        rcases HR.out with h | h
        · omega
        · exact h
      obtain ⟨hcell, hz0, hz1⟩ := hz j hlt
      clear hz
      generalize z j = Z at *
      go_wp2_with fail
      go_round
      case rel => exact ⟨j + 1, (x * 233 + Z + (s : Int)) % 1000003, by go_num, by omega, rfl, by omega, by omega⟩
      case measure => simp [intOf]; omega
    · go_wp2_with fail
      go_ret
      have e : x % (m : Int) = ((x.toNat % m : Nat) : Int) := by
        have : x = (x.toNat : Int) := by omega
        rw [this]; simp
      exact ⟨x.toNat % m, by rw [← e]; rfl, Nat.mod_lt _ (by omega), rfl⟩

theorem cBelowAny (n : Nat) (w0 : World) (a : Option Addr) (len cap b : Nat) (w : World) (hlen : len ≤ 4096) (hcr : CodeRow w0 a len) (hC : Cur w0 a len cap b w) (hn0 : 1 ≤ n) (hn1 : n ≤ 4294967296) :
    Calls Tryz.prog 61 #[.pointer (some ⟨b, 0, none⟩), .int .i64 n] w fun e w' => ∃ x : Nat, e = .returned (.int .i64 x) ∧ x < n ∧ Cur w0 a len cap b w' ∧ w.grownBy w' (some b) := by
  rcases Nat.lt_or_ge n 257 with h | h
  · exact cBelow n w0 a len cap b w hlen hcr hC hn0 (by omega)
  · exact cBelowBig n w0 a len cap b w hlen hcr hC h hn1

abbrev modsObj : Obj := .cells #[.int .i64 2, .int .i64 3, .int .i64 12, .int .i64 97, .int .i64 65521, .int .i64 2621429689, .int .i64 3000000000, .int .i64 3000000001, .int .i64 1] 2 (0, 0)

theorem mods_at (w : World) (B x : Nat) (hx : x < 9) (h : w.heap[B]? = some modsObj) : ∃ n : Nat, w.cell? ⟨B, x, none⟩ = some (.int .i64 n) ∧ 1 ≤ n ∧ n ≤ 3000000001 := by
  rw [Lib.cell_of_heap h]
  rcases (show x = 0 ∨ x = 1 ∨ x = 2 ∨ x = 3 ∨ x = 4 ∨ x = 5 ∨ x = 6 ∨ x = 7 ∨ x = 8 from by omega) with rfl | rfl | rfl | rfl | rfl | rfl | rfl | rfl | rfl
  · exact ⟨2, rfl, by decide, by decide⟩
  · exact ⟨3, rfl, by decide, by decide⟩
  · exact ⟨12, rfl, by decide, by decide⟩
  · exact ⟨97, rfl, by decide, by decide⟩
  · exact ⟨65521, rfl, by decide, by decide⟩
  · exact ⟨2621429689, rfl, by decide, by decide⟩
  · exact ⟨3000000000, rfl, by decide, by decide⟩
  · exact ⟨3000000001, rfl, by decide, by decide⟩
  · exact ⟨1, rfl, by decide, by decide⟩

abbrev oddsObj (n : Int) : Obj := .cells #[.int .i64 (-1), .int .i64 n, .int .i64 4611686018427387904] 2 (0, 0)

theorem odds_at (n : Int) (w : World) (B x : Nat) (hx : x < 3) (h : w.heap[B]? = some (oddsObj n)) : ∃ y : Int, w.cell? ⟨B, x, none⟩ = some (.int .i64 y) := by
  rw [Lib.cell_of_heap h]
  rcases (show x = 0 ∨ x = 1 ∨ x = 2 from by omega) with rfl | rfl | rfl
  · exact ⟨-1, rfl⟩
  · exact ⟨n, rfl⟩
  · exact ⟨4611686018427387904, rfl⟩

abbrev expsObj : Obj := .cells #[.int .i64 0, .int .i64 1, .int .i64 2, .int .i64 (-1), .int .i64 4611686018427387904] 2 (0, 0)

theorem exps_at (w : World) (B x : Nat) (hx : x < 5) (h : w.heap[B]? = some expsObj) : ∃ y : Int, w.cell? ⟨B, x, none⟩ = some (.int .i64 y) ∧ y ≤ 4611686018427387904 := by
  rw [Lib.cell_of_heap h]
  rcases (show x = 0 ∨ x = 1 ∨ x = 2 ∨ x = 3 ∨ x = 4 from by omega) with rfl | rfl | rfl | rfl | rfl
  · exact ⟨0, rfl, by decide⟩
  · exact ⟨1, rfl, by decide⟩
  · exact ⟨2, rfl, by decide⟩
  · exact ⟨-1, rfl, by decide⟩
  · exact ⟨4611686018427387904, rfl, by decide⟩

end Go.Proofs.YtmghipjpgoghlaaGreat

namespace Go.Proofs.YtmghipjpgoghlaaGreat
open Go.RowKit
set_option linter.unusedVariables false
set_option linter.unusedSimpArgs false

/-- A tree in a row of one's own, the first of whose nodes are turned. -/
structure XSt (W0 wr : World) (g c : Nat) (ts : List Tk) (i : Nat) (es : List Nd.E) : Prop where
  bel : Below W0.heap.size W0 wr
  own : wr.ownsRow W0.heap.size 33 4 (.slice (some ⟨g, 0, none⟩) ts.length c) ts.length (Nd.cs es)
  ats : ∀ e ∈ es, AtRow wr e.a e.t.attrs
  len : es.length = ts.length
  done : ∀ j t, ts[j]? = some t → j < i → ∃ (z : Bool) (e : Nd.E), es[j]? = some e ∧ e.t = ⟨t.kind, t.name, t.attrs.reverse ++ (if z then [zzA] else []), t.text⟩ ∧ (z = true → t.attrs.length < 6 ∧ ¬ t.name.size = 0)
  rest : ∀ j t, ts[j]? = some t → i ≤ j → ∃ e : Nd.E, es[j]? = some e ∧ e.t = t

section
variable {W0 wr : World} {g c i : Nat} {ts : List Tk} {es : List Nd.E}

theorem XSt.below {w' : World} (h : XSt W0 wr g c ts i es) (hb : Below wr.heap.size wr w') : XSt W0 w' g c ts i es :=
  ⟨bb h.bel hb, ownsRow_below h.own hb, fun e he => (h.ats e he).below hb, h.len, h.done, h.rest⟩

theorem XSt.read (h : XSt W0 wr g c ts i es) (hi : i < ts.length) : ∃ aa ca, wr.cell? ⟨g, i * 4 + 1, none⟩ = some (.string ts[i].name) ∧ wr.cell? ⟨g, i * 4 + 2, none⟩ = some (.slice aa ts[i].attrs.length ca) ∧ wr.frozen? ⟨g, i * 4 + 2, none⟩ = false ∧ AtRow wr aa ts[i].attrs ∧ W0.heap.size ≤ g ∧ g < wr.heap.size := by
  have hi' : i < es.length := by rw [h.len]; exact hi
  obtain ⟨⟨k0, k1, k2, k3⟩, fz⟩ := slot_own h.own h.len hi'
  obtain ⟨e, e1, e2⟩ := h.rest i ts[i] (List.getElem?_eq_getElem hi) (Nat.le_refl _)
  rw [List.getElem?_eq_getElem hi'] at e1
  injection e1 with e1
  rw [e1, e2] at k1
  rw [e1, e2] at k2
  have hg : W0.heap.size ≤ g ∧ g < wr.heap.size := h.own.lt g rfl
  exact ⟨e.a, e.cap, k1, k2, fz _, by have := h.ats _ (List.getElem_mem hi'); rw [e1, e2] at this; exact this, hg.1, hg.2⟩

theorem atrow_set {w : World} {a : Option Addr} {l : List At} (h : AtRow w a l) {p : Addr} {aa : Option Addr} {n ca : Nat} (hp : w.cell? p = some (.slice aa n ca)) (v : Value) : AtRow (w.setCell p v) a l := by
  intro j hj
  obtain ⟨b, o, e, hl, c1, c2⟩ := h j hj
  have n1 : p ≠ ⟨b, o + j * 2, none⟩ := fun q => by rw [q, c1] at hp; cases hp
  have n2 : p ≠ ⟨b, o + j * 2 + 1, none⟩ := fun q => by rw [q, c2] at hp; cases hp
  exact ⟨b, o, e, by simpa [World.setCell] using hl, by rw [World.cell?_setCell_other _ _ _ _ n1]; exact c1, by rw [World.cell?_setCell_other _ _ _ _ n2]; exact c2⟩

/-- One more is turned. -/
theorem XSt.store (h : XSt W0 wr g c ts i es) (hi : i < ts.length) {z : Bool} (hz : z = true → ts[i].attrs.length < 6 ∧ ¬ ts[i].name.size = 0) {a9 : Option Addr} {c9 : Nat} {l : List At} (hl : l = ts[i].attrs.reverse ++ (if z then [zzA] else [])) (hr : AtRow wr a9 l) :
    ∃ es', XSt W0 (wr.setCell ⟨g, i * 4 + 2, none⟩ (.slice a9 l.length c9)) g c ts (i + 1) es' := by
  have hi' : i < es.length := by rw [h.len]; exact hi
  obtain ⟨aa, ca, _, k2, _, _, hg1, hg2⟩ := h.read hi
  obtain ⟨e0, e1, e2⟩ := h.rest i ts[i] (List.getElem?_eq_getElem hi) (Nat.le_refl _)
  rw [List.getElem?_eq_getElem hi'] at e1
  injection e1 with e1
  have hit : es[i].t = ts[i] := by rw [e1]; exact e2
  have h1 := (World.ownsRow.stored h.own (i * 4 + 2) (.slice a9 l.length c9)).1
  rw [cs_set (es := es) hi' (f := 2) (by decide) (e' := ⟨⟨ts[i].kind, ts[i].name, l, ts[i].text⟩, a9, c9⟩) (by unfold Nd.c1; rw [hit]; rfl)] at h1
  refine ⟨es.set i ⟨⟨ts[i].kind, ts[i].name, l, ts[i].text⟩, a9, c9⟩, h.bel.setCell hg1 _, h1, fun e he => ?_, by rw [List.length_set]; exact h.len, fun j t hj hji => ?_, fun j t hj hji => ?_⟩
  · rcases List.mem_or_eq_of_mem_set he with q | q
    · exact atrow_set (h.ats e q) k2 _
    · subst q; exact atrow_set hr k2 _
  · by_cases q : j = i
    · subst q
      rw [List.getElem?_eq_getElem hi] at hj
      injection hj with hj
      subst hj
      exact ⟨z, _, by rw [List.getElem?_set_self hi'], by rw [hl], hz⟩
    · obtain ⟨z', e', q1, q2⟩ := h.done j t hj (by omega)
      exact ⟨z', e', by rw [List.getElem?_set_ne (by omega)]; exact q1, q2⟩
  · obtain ⟨e', q1, q2⟩ := h.rest j t hj (by omega)
    exact ⟨e', by rw [List.getElem?_set_ne (by omega)]; exact q1, q2⟩

theorem XSt.fin (h : XSt W0 wr g c ts i es) (hi : ts.length ≤ i) : TkRow wr (some ⟨g, 0, none⟩) (es.map (·.t)) ∧ Turned ts (es.map (·.t)) ∧ (es.map (·.t)).length = ts.length := by
  refine ⟨tk_own (B := W0.heap.size) (cap := c) (by rw [h.len]; exact h.own) h.ats, ⟨by rw [List.length_map]; exact h.len, fun j hj => ?_⟩, by rw [List.length_map]; exact h.len⟩
  obtain ⟨z, e, q1, q2, q3⟩ := h.done j ts[j] (List.getElem?_eq_getElem hj) (by omega)
  exact ⟨z, by rw [List.getElem?_map, q1, Option.map_some, q2], q3⟩

theorem turn_sz {es' : List Tk} (h : Turned ts es') (hz : TksSz 40 ts) (hl : ∀ t ∈ ts, t.attrs.length ≤ 40) : TksSz 1048576 es' := fun u hu => by
  obtain ⟨j, hj, rfl⟩ := List.getElem_of_mem hu
  have hj' : j < ts.length := by rw [← h.len]; exact hj
  obtain ⟨g1, g2, g3, z, g4, g5⟩ := h.get hj' hj
  obtain ⟨q1, q2, q3, q4⟩ := hz _ (List.getElem_mem hj')
  refine ⟨by rw [g2]; omega, ?_, ?_, by rw [g3]; omega⟩
  · rw [g4, List.length_append, List.length_reverse]
    have : (if z then [zzA] else []).length ≤ 1 := by cases z <;> simp
    omega
  · intro x hx
    rw [g4] at hx
    rcases List.mem_append.1 hx with q | q
    · have := q3 x (List.mem_reverse.1 q)
      omega
    · have : x = zzA := by
        cases z with
        | false => exact absurd q (by simp)
        | true => simpa using q
      rw [this]
      decide

end

theorem canon_pos {ts : List Tk} (h : namesB ts = true) : ¬ (canonI ts 0 (-1)).size = 0 := by
  have hN : NamesP ts := by unfold namesB at h; simpa using h
  have hT := hN.1
  have el0 : elemB ts 0 = true := by
    unfold elemB
    rw [show hasB ts (0 : Int) = true from has_of (k := 0) hT hT.1, show ((0 : Int).toNat) = 0 from rfl]
    obtain ⟨h0, hn⟩ := hT.2.2.2.1
    rw [nameI_at h0, decide_eq_false hn]
    rfl
  have hl := hT.1
  have c1 : canB ts 0 (-1) = true := by
    unfold canB
    rw [h, el0, decide_eq_true (show (-1 : Int) ≤ -1 ∧ (-1 : Int) ≤ (ts.length : Int) - 1 by omega)]
    rfl
  rw [canonI_yes c1, show ((0 : Int).toNat) = 0 from rfl]
  obtain ⟨f, hf⟩ : ∃ f, ts.length = f + 1 := ⟨ts.length - 1, by omega⟩
  obtain ⟨h0, hn⟩ := hT.2.2.2.1
  rw [hf, canonN_el rfl (by omega) (by rw [nodeAt_at h0]; exact hn), ByteArray.size_append]
  have : (⟨#[62]⟩ : ByteArray).size = 1 := rfl
  omega

end Go.Proofs.YtmghipjpgoghlaaGreat
