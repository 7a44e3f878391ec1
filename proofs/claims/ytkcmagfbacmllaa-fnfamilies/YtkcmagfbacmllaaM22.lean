/- The shape of a row of nodes: of a copy among the laws' arguments, and of one that grew. Rows of numbers, as the exact law of KidsOf compares and marks them. Contracts of the draws of a great number below another; the bytes that a draw is made of. -/
import Derived.Test.YtkcmagfbacmllaaM21
import Derived.Test.YtkcmagfbacmllaaM19
import Derived.Test.YtkcmagfbacmllaaM11
import Derived.Test.YtkcmagfbacmllaaRows
import Derived.Test.YtkcmagfbacmllaaM1
import Derived.Test.YtkcmagfbacmllaaM4
import Derived.OpenShut
import Derived.WalkKit
namespace Go.Proofs.Ytkcmagfbacmllaa.Nd
open Go.RowKit
set_option linter.unusedVariables false
set_option linter.unusedSimpArgs false

def atT (ts : List Tk) (j : Nat) : Tk := match ts[j]? with | some t => t | none => ⟨0, ⟨#[]⟩, [], ⟨#[]⟩⟩

theorem atT_at {ts : List Tk} {j : Nat} (h : j < ts.length) : atT ts j = ts[j] := by unfold atT; rw [List.getElem?_eq_getElem h]

def shL (g : Nat) (G : Nat → Nat) (ts : List Tk) : Shape where
  R := g
  o := 0
  n := ts.length
  len := fun j => (atT ts j).attrs.length
  aa := fun j => some ⟨G j, 0, none⟩
  A := G
  O := fun _ => 0
  C := fun j => (atT ts j).attrs.length

theorem Laid.shape {ts : List Tk} {g : Nat} {G : Nat → Nat} {cur : Array Value} {w : World} (h : Laid ts g ts.length G cur w) (hh : w.heap[g]? = some (.cells cur 34 (0, 0))) : (shL g G ts).Ok g ∧ HoldsN (shL g G ts) w (atT ts) := by
  refine ⟨⟨Nat.le_refl _, fun j hj hl => ?_, fun i j hi hj hne _ _ e => ?_⟩, ⟨⟨cur, hh, fun j hj => ?_⟩, fun j hj => rfl, fun j hj hl => ?_⟩⟩
  · have := (h.row j hj hj).1
    exact ⟨rfl, by show g ≤ G j; omega, by show ¬ G j = g; omega⟩
  · have e : G i = G j := e
    rcases Nat.lt_or_gt_of_ne hne with h' | h'
    · have := h.later i j h' hj
      omega
    · have := h.later j i h' hi
      omega
  · obtain ⟨k0, k1, k2, k3⟩ := h.cells j hj hj
    have e := atT_at (ts := ts) hj
    rw [show (shL g G ts).o + j * 4 = j * 4 from Nat.zero_add _]
    exact ⟨by rw [e]; exact k0, by rw [e]; exact k1, by rw [show (shL g G ts).C j = ts[j].attrs.length from by show (atT ts j).attrs.length = _; rw [e], e]; exact k2, by rw [e]; exact k3⟩
  · obtain ⟨_, cu, h1, h2⟩ := h.row j hj hj
    refine ⟨cu, h1, ?_⟩
    rw [atT_at hj]
    exact h2

theorem shL_K (g : Nat) (G : Nat → Nat) (ts : List Tk) (k : Nat) : ∀ m, m ≤ ts.length → (shL g G ts).K k m = k + 3 * m + 2 * sumA (ts.take m)
  | 0, _ => rfl
  | m + 1, h => by
    show (shL g G ts).K k m + (3 + 2 * (atT ts m).attrs.length) = _
    rw [shL_K g G ts k m (by omega), take_snocN (show m < ts.length by omega), sumA_snoc, atT_at (show m < ts.length by omega)]
    omega

def shR (g : Nat) (es : List E) : Shape where
  R := g
  o := 0
  n := es.length
  len := fun j => match es[j]? with | some e => e.t.attrs.length | none => 0
  aa := fun j => match es[j]? with | some e => e.a | none => none
  A := fun j => match es[j]? with | some ⟨_, some ad, _⟩ => ad.block | _ => 0
  O := fun j => match es[j]? with | some ⟨_, some ad, _⟩ => ad.off | _ => 0
  C := fun j => match es[j]? with | some e => e.cap | none => 0

def eAt (es : List E) (j : Nat) : Tk := match es[j]? with | some e => e.t | none => ⟨0, ⟨#[]⟩, [], ⟨#[]⟩⟩

theorem eAt_map {es : List E} {ts : List Tk} (h : es.map (·.t) = ts) (j : Nat) (hj : j < ts.length) : eAt es j = ts[j] := by
  have hl : es.length = ts.length := by rw [← h, List.length_map]
  unfold eAt
  rw [List.getElem?_eq_getElem (by omega)]
  subst h
  simp

theorem shR_at (g : Nat) (es : List E) (j : Nat) (hj : j < es.length) : (shR g es).len j = es[j].t.attrs.length ∧ (shR g es).aa j = es[j].a ∧ (shR g es).C j = es[j].cap ∧ eAt es j = es[j].t
    ∧ ∀ b o, es[j].a = some ⟨b, o, none⟩ → (shR g es).A j = b ∧ (shR g es).O j = o := by
  have he := List.getElem?_eq_getElem hj
  refine ⟨?_, ?_, ?_, ?_, fun b o hb => ?_⟩
  · show (match es[j]? with | some e => e.t.attrs.length | none => 0) = _
    rw [he]
  · show (match es[j]? with | some e => e.a | none => none) = _
    rw [he]
  · show (match es[j]? with | some e => e.cap | none => 0) = _
    rw [he]
  · unfold eAt
    rw [he]
  · obtain ⟨x, hx⟩ : ∃ x, es[j] = x := ⟨_, rfl⟩
    rw [hx] at he hb
    obtain ⟨t, a, c⟩ := x
    simp only at hb
    subst hb
    exact ⟨by show (match es[j]? with | some ⟨_, some ad, _⟩ => ad.block | _ => 0) = _; rw [he], by show (match es[j]? with | some ⟨_, some ad, _⟩ => ad.off | _ => 0) = _; rw [he]⟩

theorem Row.shape {w : World} {B : Nat} {v : Value} {es : List E} (h : Row w B v es) (hne : ¬ es = []) :
    ∃ (g : Nat) (cap : Nat), v = .slice (some ⟨g, 0, none⟩) es.length cap ∧ (shR g es).Ok B ∧ HoldsN (shR g es) w (eAt es) := by
  rcases h.own.2 with ⟨_, h0⟩ | ⟨g, cap, cur, rfl, hg, hh, hn, hc, hs, ht⟩
  · exact absurd (List.eq_nil_of_length_eq_zero h0) hne
  · refine ⟨g, cap, rfl, ⟨hg, fun j hj hl => ?_, fun i j hi hj hne hl hl' => ?_⟩, ⟨⟨cur, hh, fun j hj => ?_⟩, fun j hj => ?_, fun j hj hl => ?_⟩⟩
    · obtain ⟨s1, s2, s3, s4, s5⟩ := shR_at g es j hj
      rw [s1] at hl
      obtain ⟨b, o, cu, e, hB, _⟩ := (h.ats _ (List.getElem_mem hj)).1 hl
      obtain ⟨s6, s7⟩ := s5 b o e
      rw [s2, s6, s7]
      exact ⟨e, hB, fun x => (h.ats _ (List.getElem_mem hj)).2 b o hl e (by rw [x]; rfl)⟩
    · obtain ⟨s1, s2, s3, s4, s5⟩ := shR_at g es i hi
      obtain ⟨t1, t2, t3, t4, t5⟩ := shR_at g es j hj
      rw [s1] at hl
      rw [t1] at hl'
      obtain ⟨b, o, _, e, _⟩ := (h.ats _ (List.getElem_mem hi)).1 hl
      obtain ⟨b', o', _, e', _⟩ := (h.ats _ (List.getElem_mem hj)).1 hl'
      rw [(s5 b o e).1, (t5 b' o' e').1]
      have hi : i < es.length := hi
      have hj : j < es.length := hj
      rcases Nat.lt_or_gt_of_ne hne with h' | h'
      · exact List.pairwise_iff_getElem.1 h.apart i j hi hj h' hl hl' b o b' o' e e'
      · exact fun x => List.pairwise_iff_getElem.1 h.apart j i hj hi h' hl' hl b' o' b o e' e x.symm
    · obtain ⟨s1, s2, s3, s4, s5⟩ := shR_at g es j hj
      obtain ⟨k0, k1, k2, k3⟩ := cs_get es j hj
      have hx : ∀ k u, (cs es)[k]? = some u → cur[0 + k]? = some u := by
        intro k u hk
        rw [Nat.zero_add, ← Array.getElem?_toList]
        rw [← ht, List.getElem?_take] at hk
        split at hk
        · exact hk
        · cases hk
      rw [s2, s3, s4]
      exact ⟨hx _ _ k0, hx _ _ k1, hx _ _ k2, hx _ _ k3⟩
    · obtain ⟨s1, s2, s3, s4, s5⟩ := shR_at g es j hj
      rw [s4, s1]
    · obtain ⟨s1, s2, s3, s4, s5⟩ := shR_at g es j hj
      rw [s1] at hl
      obtain ⟨b, o, cu, e, _, hhb, hcl⟩ := (h.ats _ (List.getElem_mem hj)).1 hl
      obtain ⟨s6, s7⟩ := s5 b o e
      rw [s6, s7, s4]
      exact ⟨cu, hhb, hcl⟩

theorem shR_K (g : Nat) (es : List E) (ts : List Tk) (hm : es.map (·.t) = ts) (k : Nat) : ∀ m, m ≤ ts.length → (shR g es).K k m = k + 3 * m + 2 * sumA (ts.take m)
  | 0, _ => rfl
  | m + 1, h => by
    have hl : es.length = ts.length := by rw [← hm, List.length_map]
    show (shR g es).K k m + (3 + 2 * (shR g es).len m) = _
    have e1 : es[m].t = ts[m] := by subst hm; simp
    rw [shR_K g es ts hm k m (by omega), take_snocN (show m < ts.length by omega), sumA_snoc, (shR_at g es m (by omega)).1, e1]
    omega

theorem Row.keep {w w' : World} {B : Nat} {v : Value} {es : List E} {p : Nat → Prop} (h : Row w B v es) (k : KeepB p w w') (hp : ∀ b, p b → b < B) : Row w' B v es := by
  have key : ∀ b o, B ≤ b → w.heap[b]? = some o → w'.heap[b]? = some o := fun b o hb hh => (k.block b (lt_of_heap hh) (fun x => by have := hp b x; omega)).trans hh
  refine ⟨⟨h.own.1, ?_⟩, fun e he => ⟨fun hl => ?_, (h.ats e he).2⟩, h.apart⟩
  · rcases h.own.2 with h' | ⟨g, cap, cur, h1, h2, h3, h4⟩
    · exact .inl h'
    · exact .inr ⟨g, cap, cur, h1, h2, key g _ h2 h3, h4⟩
  · obtain ⟨g, o, cu, e1, e2, e3, e4⟩ := (h.ats e he).1 hl
    exact ⟨g, o, cu, e1, e2, key g _ e2 e3, e4⟩

theorem cMarkNone (a : Option Addr) (cap k : Nat) (w : World) (hk : k ≤ 100000000) :
    Calls Try.prog 28 #[.slice a 0 cap, .int .i64 k] w fun e w' => e = .returned (.int .i64 k) ∧ w' = w := by
  go_enter Try.func28, Try.ntmps28
  go_wp2
  go_loopw [1, 5] (fun x y wr => x = .int .i64 k ∧ y = .int .i64 0 ∧ wr = w) (fun _ _ _ => 0)
  case atStart => exact ⟨rfl, rfl, rfl⟩
  case round =>
    obtain ⟨rfl, rfl, rfl⟩ := hrel
    go_wp2
    go_ret
    exact ⟨rfl, rfl⟩

theorem cHeldNone (a : Option Addr) (cap k : Nat) (w : World) (hk : k ≤ 100000000) :
    Calls Try.prog 29 #[.slice a 0 cap, .int .i64 k] w fun e w' => e = .returned (.int .i64 k) ∧ w' = w := by
  go_enter Try.func29, Try.ntmps29
  go_wp2
  go_loopw [1, 5] (fun x y wr => x = .int .i64 k ∧ y = .int .i64 0 ∧ wr = w) (fun _ _ _ => 0)
  case atStart => exact ⟨rfl, rfl, rfl⟩
  case round =>
    obtain ⟨rfl, rfl, rfl⟩ := hrel
    go_wp2
    go_ret
    exact ⟨rfl, rfl⟩

end Go.Proofs.Ytkcmagfbacmllaa.Nd

namespace Go.Proofs.Ytkcmagfbacmllaa
open Go.RowKit
set_option linter.unusedVariables false
set_option linter.unusedSimpArgs false

/-- Numbers in a row from a on. -/
def IntRow (w : World) (a : Option Addr) (l : List Nat) : Prop := ∀ j (h : j < l.length), ∃ b o, a = some ⟨b, o, none⟩ ∧ b < w.heap.size ∧ w.cell? ⟨b, o + j, none⟩ = some (.int .i64 (l[j] : Int))

theorem IntRow.below {w w' : World} {a : Option Addr} {l : List Nat} (h : IntRow w a l) (hb : Below w.heap.size w w') : IntRow w' a l := by
  intro j hj
  obtain ⟨b, o, ha, hlt, c⟩ := h j hj
  exact ⟨b, o, ha, Nat.lt_of_lt_of_le hlt hb.size, (hb.cell (p := ⟨b, o + j, none⟩) hlt).trans c⟩

/-- A row of numbers of our own. -/
theorem own64 {w : World} {B : Nat} {v : Value} {l : List Nat} (h : w.ownsRow B 2 1 v l.length (intC l)) : ∃ a cap, v = .slice a l.length cap ∧ IntRow w a l := by
  rcases h.2 with ⟨rfl, h0⟩ | ⟨g, cap, cur, rfl, hg, hh, hn, hc, hs, ht⟩
  · have : l = [] := List.eq_nil_of_length_eq_zero h0
    subst this
    exact ⟨none, 0, rfl, fun j hj => absurd hj (Nat.not_lt_zero _)⟩
  · refine ⟨_, _, rfl, fun j hj => ⟨g, 0, rfl, lt_of_heap hh, ?_⟩⟩
    obtain ⟨g', cap', e, _, c⟩ := (row64 ⟨h.1, .inr ⟨g, cap, cur, rfl, hg, hh, hn, hc, hs, ht⟩⟩).2 j hj
    cases e
    rw [Nat.zero_add]
    exact c

theorem own64_rd {w : World} {B n c : Nat} {a : Option Addr} {l : List Nat} (h : w.ownsRow B 2 1 (.slice a n c) n (intC l)) (hn : l.length = n) : IntRow w a l := by
  subst hn
  obtain ⟨a', c', e, hr⟩ := own64 h
  cases e
  exact hr

theorem row64_keep {w w' : World} {B n : Nat} {v : Value} {xs : List Value} {p : Nat → Prop} {e : TypeId} (h : w.ownsRow B e 1 v n xs) (k : KeepB p w w') (hp : ∀ b, p b → b < B) : w'.ownsRow B e 1 v n xs := by
  refine ⟨h.1, ?_⟩
  rcases h.2 with h' | ⟨g, cap, cur, h1, h2, h3, h4⟩
  · exact .inl h'
  · exact .inr ⟨g, cap, cur, h1, h2, (k.block g (lt_of_heap h3) (fun x => by have := hp g x; omega)).trans h3, h4⟩

/-- The marks from k on. -/
def MarksI (cur : Array Value) (n k : Nat) : Prop := ∀ j, j < n → cur[j]? = some (.int .i64 ((k + j : Nat) : Int))

/-- The marks from 1 on. -/
def mkI (n : Nat) : List Nat := (List.range n).map fun j => 1 + j

theorem mkI_len (n : Nat) : (mkI n).length = n := by simp [mkI]

theorem mkI_at (n j : Nat) (h : j < (mkI n).length) : (mkI n)[j] = 1 + j := by simp [mkI]

theorem MarksI.row {w : World} {g n : Nat} {cur : Array Value} {T : TypeId} (h : MarksI cur n 1) (hh : w.heap[g]? = some (.cells cur T (0, 0))) : IntRow w (some ⟨g, 0, none⟩) (mkI n) := by
  intro j hj
  refine ⟨g, 0, rfl, lt_of_heap hh, ?_⟩
  rw [Lib.cell_of_heap hh, mkI_at n j hj, Nat.zero_add]
  rw [mkI_len] at hj
  exact h j hj

theorem kidsI_len (ts : List Tk) (x : Int) : (kidsI ts x).length ≤ ts.length := by
  unfold kidsI
  split
  · exact kidsTo_len ts _ _
  · exact Nat.zero_le _

/-- The blocks of a copy: from its own on, and there. -/
theorem Nd.Laid.hasI {ts : List Tk} {g : Nat} {G : Nat → Nat} {cur : Array Value} {w : World} (h : Nd.Laid ts g ts.length G cur w) (hh : w.heap[g]? = some (.cells cur 34 (0, 0))) : ∀ b, (Nd.shL g G ts).Has b → g ≤ b ∧ b < w.heap.size := by
  rintro b (rfl | ⟨j, hj, _, rfl⟩)
  · exact ⟨Nat.le_refl _, lt_of_heap hh⟩
  · obtain ⟨h1, cu, h2, _⟩ := h.row j hj hj
    have h3 := lt_of_heap h2
    exact ⟨by show g ≤ G j; omega, by show G j < w.heap.size; omega⟩

end Go.Proofs.Ytkcmagfbacmllaa

namespace Go.Proofs.Ytkcmagfbacmllaa
open Go.RowKit
set_option linter.unusedVariables false
set_option linter.unusedSimpArgs false

theorem code_of {w : World} {a : Option Addr} {len cap : Nat} {zs : List Int}
    (h : (a = none ∧ len = 0 ∧ cap = 0 ∧ zs = []) ∨ ∃ x, a = some x ∧ len ≤ cap ∧ cap ≤ maxLen ∧ zs.length = cap ∧ (∀ i, i < zs.length → w.cell? (x.add i) = some (.int .u8 (zs.getD i 0))) ∧ ∀ n ∈ zs, (Lit.int .u8 n).wf = true) : CodeRow w a len := by
  rcases h with ⟨_, h, _⟩ | ⟨x, rfl, hl, _, hz, hc, _⟩
  · exact .inl h
  · by_cases h0 : len = 0
    · exact .inl h0
    · obtain ⟨cb, co, rfl, hcells⟩ := ints_at hc (by omega)
      refine .inr ⟨cb, co, fun j => zs.getD j 0, rfl, ?_, fun j hj => hcells j (by omega)⟩
      have h1 := hcells 0 (by omega)
      rcases Nat.lt_or_ge cb w.heap.size with h' | h'
      · exact h'
      · simp [World.cell?, Array.getElem?_eq_none h'] at h1

theorem code_below {w w2 : World} {a : Option Addr} {len : Nat} (h : CodeRow w a len) (hb : Below w.heap.size w w2) : CodeRow w2 a len := by
  rcases h with h | ⟨cb, co, z, h1, h2, h3⟩
  · exact .inl h
  · exact .inr ⟨cb, co, z, h1, Nat.lt_of_lt_of_le h2 hb.size, fun j hj => (hb.cell (p := ⟨cb, co + j, none⟩) h2).trans (h3 j hj)⟩

theorem bt {w a b : World} (h : Below w.heap.size w a) (k : Below a.heap.size a b) : Below w.heap.size w b := h.trans (k.mono h.size)

theorem cBig_no (a : Option Addr) (len cap : Nat) (w : World) (h : len ≤ 4096) : Calls Try.prog 8 #[.slice a len cap] w fun e w' => e = .returned (.bool false) ∧ w' = w := by
  have h1 : decide ((4096 : Int) < (len : Int)) = false := by simp; omega
  go_enter Try.func8, Try.ntmps8
  go_wp2
  go_ret
  exact ⟨rfl, rfl⟩

theorem cBig_yes (a : Option Addr) (len cap : Nat) (w : World) (h : ¬ len ≤ 4096) : Calls Try.prog 8 #[.slice a len cap] w fun e w' => e = .returned (.bool true) ∧ w' = w := by
  have h1 : decide ((4096 : Int) < (len : Int)) = true := by simp; omega
  go_enter Try.func8, Try.ntmps8
  go_wp2
  go_ret
  exact ⟨rfl, rfl⟩

theorem four_wrap (x y z u : Int) (hx : 0 ≤ x ∧ x ≤ 255) (hy : 0 ≤ y ∧ y ≤ 255) (hz : 0 ≤ z ∧ z ≤ 255) (hu : 0 ≤ u ∧ u ≤ 255) :
    IntKind.i64.wrap (x * 16777216) = x * 16777216 ∧ IntKind.i64.wrap (y * 65536) = y * 65536 ∧ IntKind.i64.wrap (x * 16777216 + y * 65536) = x * 16777216 + y * 65536 ∧ IntKind.i64.wrap (z * 256) = z * 256
    ∧ IntKind.i64.wrap (x * 16777216 + y * 65536 + z * 256) = x * 16777216 + y * 65536 + z * 256 ∧ IntKind.i64.wrap (x * 16777216 + y * 65536 + z * 256 + u) = x * 16777216 + y * 65536 + z * 256 + u := by
  refine ⟨?_, ?_, ?_, ?_, ?_, ?_⟩ <;> exact IntWalk.i64_in _ (by omega)

theorem mod_nat (s : Int) (n : Nat) (h0 : 0 ≤ s) (hn : 1 ≤ n) : s.tmod (n : Int) = ((s.toNat % n : Nat) : Int) ∧ s % (n : Int) = ((s.toNat % n : Nat) : Int) := by
  obtain ⟨k, rfl⟩ : ∃ k : Nat, s = k := ⟨s.toNat, by omega⟩
  refine ⟨?_, ?_⟩
  · rw [Int.tmod_eq_emod_of_nonneg h0]; simp
  · simp

set_option maxHeartbeats 2000000 in
/-- A number below n, which is greater than 256. -/
theorem cBelowBig (n : Nat) (w0 : World) (a : Option Addr) (len cap b : Nat) (w : World) (hlen : len ≤ 4096) (hcr : CodeRow w0 a len) (hC : Cur w0 a len cap b w) (hn0 : 257 ≤ n) (hn1 : n ≤ 4294967296) :
    Calls Try.prog 107 #[.pointer (some ⟨b, 0, none⟩), .int .i64 n] w fun e w' => ∃ x : Nat, e = .returned (.int .i64 x) ∧ x < n ∧ Cur w0 a len cap b w' ∧ w.grownBy w' (some b) := by
  have HR : Hid (CodeRow w0 a len) := hcr
  have HC : Hid (Cur w0 a len cap b w) := hC
  clear hC hcr
  have hz : ¬ (n : Int) = 0 := by omega
  have d1 : decide ((n : Int) ≤ 0) = false := by simp; omega
  have d2 : decide ((n : Int) ≤ 256) = false := by simp; omega
  go_enter Try.func107, Try.ntmps107
  go_wp2_with fail
  refine (cByte w0 a len cap b _ hlen HR.out HC.out).mono ?_
  rintro e w1 ⟨x, rfl, hx0, hx1, hC1, hg1⟩
  have HC1 : Hid (Cur w0 a len cap b w1) := hC1
  have HG : Hid (w.grownBy w1 (some b)) := hg1
  clear hC1 hg1
  go_wp2_with fail
  refine (cByte w0 a len cap b _ hlen HR.out HC1.out).mono ?_
  rintro e w2 ⟨y, rfl, hy0, hy1, hC2, hg2⟩
  have HC2 : Hid (Cur w0 a len cap b w2) := hC2
  have HG2 : Hid (w.grownBy w2 (some b)) := gtrans HG.out hg2
  clear hC2 hg2
  go_wp2_with fail
  refine (cByte w0 a len cap b _ hlen HR.out HC2.out).mono ?_
  rintro e w3 ⟨z, rfl, hz0, hz1, hC3, hg3⟩
  have HC3 : Hid (Cur w0 a len cap b w3) := hC3
  have HG3 : Hid (w.grownBy w3 (some b)) := gtrans HG2.out hg3
  clear hC3 hg3
  go_wp2_with fail
  refine (cByte w0 a len cap b _ hlen HR.out HC3.out).mono ?_
  rintro e w4 ⟨u, rfl, hu0, hu1, hC4, hg4⟩
  have HC4 : Hid (Cur w0 a len cap b w4) := hC4
  have HG4 : Hid (w.grownBy w4 (some b)) := gtrans HG3.out hg4
  clear hC4 hg4
  obtain ⟨k1, k2, k3, k4, k5, k6⟩ := four_wrap x y z u ⟨hx0, hx1⟩ ⟨hy0, hy1⟩ ⟨hz0, hz1⟩ ⟨hu0, hu1⟩
  obtain ⟨s, hs⟩ : ∃ s : Int, x * 16777216 + y * 65536 + z * 256 + u = s := ⟨_, rfl⟩
  have hs0 : 0 ≤ s := by omega
  rw [hs] at k6
  obtain ⟨m1, m2⟩ := mod_nat s n hs0 (by omega)
  have hlt : s.toNat % n < n := Nat.mod_lt _ (by omega)
  obtain ⟨r, hr⟩ : ∃ r : Nat, s.toNat % n = r := ⟨_, rfl⟩
  rw [hr] at m1 m2 hlt
  clear hx0 hx1 hy0 hy1 hz0 hz1 hu0 hu1 hr
  go_wp2_with fail
  go_ret
  refine ⟨r, ?_, hlt, HC4.out, HG4.out⟩
  first | rfl | (rw [← m2]; rfl) | (rw [← m1]; rfl) | simp [m1, m2]

end Go.Proofs.Ytkcmagfbacmllaa
